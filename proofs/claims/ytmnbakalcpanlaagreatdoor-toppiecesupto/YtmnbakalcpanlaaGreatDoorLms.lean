import Derived.Test.YtmnbakalcpanlaaGreatDoorRs3
import Derived.Test.YtmnbakalcpanlaaGreatDoorLmr
namespace Go.Proofs.YtmnbakalcpanlaaGreatDoor
open Go.ChangeShapes Go.WideShapes Go.ChangeAt Go.RowKit Go.Maps Go.WideMaps
set_option linter.unusedVariables false
set_option linter.unusedSimpArgs false

set_option maxRecDepth 1000000 in
set_option maxHeartbeats 4000000 in
theorem quoted_96 (b : Nat) (s : ByteArray) (p : Nat) (hs : s.size ≤ 4294967280) (hp : p < s.size) (hc : (s[p]'hp).toNat = 96) (w : World) (hb : w.cell? ⟨b, 0, none⟩ = some (.string s)) :
    Calls Tryz.prog 37 #[.pointer (some ⟨b, 0, none⟩), .int .i64 (p : Int)] w fun e w' => e = .returned (.tuple #[tokV p (quP s p), fltV (quP s p)]) ∧ Below w.heap.size w w' := by
  have hbt : bt s p = 96 := by rw [bt_in hp, hc]
  have hqp : quP s p = if fnd s 96 (p + 1) < s.size then .ok 5 (fnd s 96 (p + 1) + 1) else .no 22 p := by unfold quP; rw [if_pos hbt]
  rw [hqp]
  have hbl : b < w.heap.size := World.block_lt_of_cell? _ _ hb
  have hp' : (p : Int) < (s.size : Int) := by omega
  obtain ⟨w2, e2, hw, hs2, hX⟩ := start2 w b s hb
  have HE2 : Hid ((w.alloc (.cells #[.int .u8 0, .int .i64 0, .int .i64 0] 50)).alloc (.cells #[.int .i64 0, .int .i64 0, .int .i64 0] 26) = w2) := e2
  have HX : Hid (∀ v, Below w2.heap.size w2 v → Bx v w.heap.size #[.int .u8 0, .int .i64 0, .int .i64 0] 50 ∧ Bx v (w.heap.size + 1) #[.int .i64 0, .int .i64 0, .int .i64 0] 26 ∧ v.cell? ⟨b, 0, none⟩ = some (.string s) ∧ b < v.heap.size ∧ Below w.heap.size w v) := hX
  have HW2 : Hid (Below w.heap.size w w2) := hw
  obtain ⟨-, -, c2, b2, -⟩ := hX w2 (Below.refl _ _)
  have HR : Hid (Calls Tryz.prog 56 #[.pointer (some ⟨b, 0, none⟩), .int .i64 (p : Int)] w2 fun e w' => e = .returned (.tuple #[tokV p (if fnd s 96 (p + 1) < s.size then .ok 5 (fnd s 96 (p + 1) + 1) else .no 22 p), fltV (if fnd s 96 (p + 1) < s.size then .ok 5 (fnd s 96 (p + 1) + 1) else .no 22 p)]) ∧ Below w2.heap.size w2 w') := raw_any b s p hs hp w2 c2
  clear e2 hw hX hb
  clear hqp hbt
  by_cases hf : fnd s 96 (p + 1) < s.size
  · rw [if_pos hf] at HR ⊢
    obtain ⟨T, hT⟩ : ∃ T, fnd s 96 (p + 1) + 1 = T := ⟨_, rfl⟩
    try rw [hT] at HR ⊢
    have HR' : Hid (Calls Tryz.prog 56 #[.pointer (some ⟨b, 0, none⟩), .int .i64 (p : Int)] w2 fun e w' => e = .returned (.tuple #[.agg #[.int .u8 5, .int .i64 (p : Int), .int .i64 (T : Int)], .agg #[.int .i64 0, .int .i64 0, .int .i64 0]]) ∧ Below w2.heap.size w2 w') := HR
    clear HR
    go_enter Tryz.func37, Tryz.ntmps37
    go_upto_region 1 with fail
    rw [HE2.out]
    go_wp2_with (go_at_call 56; (with_reducible refine HR'.out.mono ?_); rintro e w4 ⟨rfl, hb4⟩; obtain ⟨Y0, Y1, -, -, HWv⟩ := HX.out w4 hb4; have HW4 : Hid (Below w.heap.size w w4) := HWv; have HY0 : Hid (Bx w4 w.heap.size #[.int .u8 0, .int .i64 0, .int .i64 0] 50) := Y0; have HY1 : Hid (Bx w4 (w.heap.size + 1) #[.int .i64 0, .int .i64 0, .int .i64 0] 26) := Y1; obtain ⟨z0, z1, z2, z3, z4, z5, zf, zh⟩ := two_of Y0 Y1; have f0 := zf 0; have f1 := zf 1; have f2 := zf 2; have h0 := zh 0; have h1 := zh 1; have h2 := zh 2; clear HWv Y0 Y1 zf zh; clear hb4)
    obtain ⟨r0, r1, r2, r3, r4, r5⟩ := two_boxes HY0.out HY1.out (.int .u8 5) (.int .i64 (p : Int)) (.int .i64 (T : Int)) (.int .i64 0) (.int .i64 0) (.int .i64 0)
    refine bodyPost_ret (v := .tuple #[.agg #[.int .u8 5, .int .i64 (p : Int), .int .i64 (T : Int)], .agg #[.int .i64 0, .int .i64 0, .int .i64 0]]) (by simp [results, Tryz.results37, go_sem, r0, r1, r2, r3, r4, r5]) rfl ⟨rfl, bel_two HW4.out (Nat.le_refl _)⟩
  · rw [if_neg hf] at HR ⊢
    obtain ⟨T, hT⟩ : ∃ T, fnd s 96 (p + 1) + 1 = T := ⟨_, rfl⟩
    try rw [hT] at HR ⊢
    have HR' : Hid (Calls Tryz.prog 56 #[.pointer (some ⟨b, 0, none⟩), .int .i64 (p : Int)] w2 fun e w' => e = .returned (.tuple #[.agg #[.int .u8 0, .int .i64 0, .int .i64 0], .agg #[.int .i64 22, .int .i64 0, .int .i64 (p : Int)]]) ∧ Below w2.heap.size w2 w') := HR
    clear HR
    go_enter Tryz.func37, Tryz.ntmps37
    go_upto_region 1 with fail
    rw [HE2.out]
    go_wp2_with (go_at_call 56; (with_reducible refine HR'.out.mono ?_); rintro e w4 ⟨rfl, hb4⟩; obtain ⟨Y0, Y1, -, -, HWv⟩ := HX.out w4 hb4; have HW4 : Hid (Below w.heap.size w w4) := HWv; have HY0 : Hid (Bx w4 w.heap.size #[.int .u8 0, .int .i64 0, .int .i64 0] 50) := Y0; have HY1 : Hid (Bx w4 (w.heap.size + 1) #[.int .i64 0, .int .i64 0, .int .i64 0] 26) := Y1; obtain ⟨z0, z1, z2, z3, z4, z5, zf, zh⟩ := two_of Y0 Y1; have f0 := zf 0; have f1 := zf 1; have f2 := zf 2; have h0 := zh 0; have h1 := zh 1; have h2 := zh 2; clear HWv Y0 Y1 zf zh; clear hb4)
    obtain ⟨r0, r1, r2, r3, r4, r5⟩ := two_boxes HY0.out HY1.out (.int .u8 0) (.int .i64 0) (.int .i64 0) (.int .i64 22) (.int .i64 0) (.int .i64 (p : Int))
    refine bodyPost_ret (v := .tuple #[.agg #[.int .u8 0, .int .i64 0, .int .i64 0], .agg #[.int .i64 22, .int .i64 0, .int .i64 (p : Int)]]) (by simp [results, Tryz.results37, go_sem, r0, r1, r2, r3, r4, r5]) rfl ⟨rfl, bel_two HW4.out (Nat.le_refl _)⟩

theorem quoted_any (b : Nat) (s : ByteArray) (p : Nat) (hs : s.size ≤ 4294967280) (hp : p < s.size) (hc : bt s p = 39 ∨ bt s p = 34 ∨ bt s p = 96) (w : World) (hb : w.cell? ⟨b, 0, none⟩ = some (.string s)) (hT : U8 w) :
    Calls Tryz.prog 37 #[.pointer (some ⟨b, 0, none⟩), .int .i64 (p : Int)] w fun e w' => e = .returned (.tuple #[tokV p (quP s p), fltV (quP s p)]) ∧ Below w.heap.size w w' := by
  rw [bt_in hp] at hc
  rcases hc with h | h | h
  · exact quoted_39 b s p hs hp h w hb hT
  · exact quoted_34 b s p hs hp h w hb hT
  · exact quoted_96 b s p hs hp h w hb
/-- where a scanner works: what was there before it, itself, the keywords -/
structure In (w0 : World) (b M : Nat) (s : ByteArray) (v : World) : Prop where
  bel : Below w0.heap.size w0 v
  sg : Sg v b M s
  map : v.ownsMap Tryz.prog 9 (plainElem (H := Unit) Tryz.prog 48) M 25 (KW 25)
/-- what the scanner asks of the world that was there -/
structure Gd (w0 : World) (b M : Nat) : Prop where
  lt : Lt w0
  spl : Spl w0
  max : ∃ m, w0.cell? ⟨1, 0, none⟩ = some (.int .i64 m)
  b0 : w0.heap.size ≤ b
  m0 : w0.heap.size ≤ M
  ne : M ≠ b
theorem In.below {w0 v v' : World} {b M : Nat} {s : ByteArray} (h : In w0 b M s v) (hb : Below v.heap.size v v') : In w0 b M s v' :=
  ⟨h.bel.trans (hb.mono h.bel.size), h.sg.below hb, ownsMap_below h.map hb (ownsMap_lt h.map)⟩
theorem In.grown {w0 v v' : World} {b M : Nat} {s : ByteArray} (h : In w0 b M s v) (G : Gd w0 b M) (hg : v.grownBy v' (some b)) (hs : Sg v' b M s) : In w0 b M s v' := by
  refine ⟨?_, hs, ?_⟩
  · exact ⟨hg.os.trans h.bel.os, hg.tape.trans h.bel.tape, hg.output.trans h.bel.output, Nat.le_trans h.bel.size hg.size, fun k hk => (hg.block k (Nat.lt_of_lt_of_le hk h.bel.size) (by have := G.b0; simp; omega)).trans (h.bel.block k hk)⟩
  · obtain ⟨es, clock, h1, h2, h3, h4⟩ := h.map
    exact ⟨es, clock, (hg.block M (ownsMap_lt h.map) (by have := G.ne; simp; omega)).trans h1, h2, h3, h4⟩
theorem In.cell {w0 v : World} {b M : Nat} {s : ByteArray} (h : In w0 b M s v) : v.cell? ⟨b, 0, none⟩ = some (.string s) ∧ v.cell? ⟨b, 2, none⟩ = some (.map (some M)) := by
  obtain ⟨d, mk, h1, -, -⟩ := h.sg
  exact ⟨h1.cell 0, h1.cell 2⟩
theorem In.max {w0 v : World} {b M : Nat} {s : ByteArray} (h : In w0 b M s v) (G : Gd w0 b M) : ∃ m, v.cell? ⟨1, 0, none⟩ = some (.int .i64 m) := by
  obtain ⟨m, hm⟩ := G.max
  exact ⟨m, (h.bel.cell (p := ⟨1, 0, none⟩) (World.block_lt_of_cell? _ _ hm)).trans hm⟩
theorem Gd.nb {w0 : World} {b M : Nat} (G : Gd w0 b M) : 0 ≠ b := by have := G.spl.1; have := G.b0; omega
/-- the rows' functions -/
def fitN : Nat → Nat
  | 0 => 28
  | 1 => 30
  | 2 => 32
  | 3 => 34
  | 4 => 36
  | _ => 38
def cutN : Nat → Nat
  | 0 => 29
  | 1 => 31
  | 2 => 33
  | 3 => 35
  | 4 => 37
  | _ => 39
theorem fits_any {w0 : World} {b M : Nat} (G : Gd w0 b M) (s : ByteArray) (p r : Nat) (hs : s.size ≤ 4294967280) (hp : p < s.size) (hr : r < 6) (v : World) (h : In w0 b M s v) :
    Calls Tryz.prog (fitN r) #[.pointer (some ⟨b, 0, none⟩), .int .i64 (p : Int)] v fun e v' => e = .returned (.bool (fR s p r)) ∧ In w0 b M s v' ∧ v.grownBy v' (some b) := by
  have still : ∀ {e : Ending} {x : Ending} {v' : World}, e = x ∧ v' = v → e = x ∧ In w0 b M s v' ∧ v.grownBy v' (some b) := fun {e x v'} hh => ⟨hh.1, by rw [hh.2]; exact h, by rw [hh.2]; exact grownBy_of_below (Below.refl _ _) _⟩
  have more : ∀ {e : Ending} {x : Ending} {v' : World}, e = x ∧ Below v.heap.size v v' → e = x ∧ In w0 b M s v' ∧ v.grownBy v' (some b) := fun {e x v'} hh => ⟨hh.1, h.below hh.2, grownBy_of_below hh.2 _⟩
  match r, hr with
  | 0, _ => exact (atBlank_any b s p hs hp v h.cell.1).mono fun e v' hh => still hh
  | 1, _ => exact (atNote_any b s p hs hp v h.cell.1).mono fun e v' hh => still hh
  | 2, _ => exact (atLetter_any b s p hs hp v h.cell.1 (G.lt.below h.bel)).mono fun e v' hh => more hh
  | 3, _ => exact (atDigit_any b s p hs hp v h.cell.1).mono fun e v' hh => still hh
  | 4, _ => exact (atQuote_any b s p hs hp v h.cell.1).mono fun e v' hh => still hh
  | 5, _ => exact (atMark_any b M s p hs hp v (G.spl.below h.bel) G.nb h.sg).mono fun e v' hh => ⟨hh.1, h.grown G hh.2.2 hh.2.1, hh.2.2⟩
theorem cuts_any {w0 : World} {b M : Nat} (G : Gd w0 b M) (s : ByteArray) (p r : Nat) (hs : s.size ≤ 4294967280) (hp : p < s.size) (hr : r < 6) (hf : fR s p r = true) (v : World) (h : In w0 b M s v) :
    Calls Tryz.prog (cutN r) #[.pointer (some ⟨b, 0, none⟩), .int .i64 (p : Int)] v fun e v' => e = .returned (.tuple #[tokV p (cR s p r), fltV (cR s p r)]) ∧ In w0 b M s v' ∧ v.grownBy v' (some b) := by
  have more : ∀ {e : Ending} {x : Ending} {v' : World}, e = x ∧ Below v.heap.size v v' → e = x ∧ In w0 b M s v' ∧ v.grownBy v' (some b) := fun {e x v'} hh => ⟨hh.1, h.below hh.2, grownBy_of_below hh.2 _⟩
  match r, hr with
  | 0, _ => exact (blanks_any b s p hs hp v h.cell.1).mono fun e v' hh => more hh
  | 1, _ =>
    have hf' : (bt s p = 47 ∧ bt s (p + 1) = 47) ∨ (bt s p = 47 ∧ bt s (p + 1) = 42) := by simpa [fR] using hf
    exact (note_any b s p hs hp (by omega) (by omega) v h.cell.1 (h.max G)).mono fun e v' hh => more hh
  | 2, _ => exact (name_any b s p hs hp M v h.cell.1 h.cell.2 h.map (G.lt.below h.bel)).mono fun e v' hh => more hh
  | 3, _ => exact (number_any b s p hs hp (of_decide_eq_true hf) v h.cell.1 (G.lt.below h.bel)).mono fun e v' hh => more hh
  | 4, _ => exact (quoted_any b s p hs hp (of_decide_eq_true hf) v h.cell.1 (G.lt.below h.bel).1).mono fun e v' hh => more hh
  | 5, _ =>
    cases hO : onT TT 0 (bt s p) with
    | none => have : (onT TT 0 (bt s p)).isSome = true := hf; rw [hO] at this; cases this
    | some x => exact (mark_any b M s p x hs hp hO v (G.spl.below h.bel) G.nb h.sg).mono fun e v' hh => ⟨hh.1, h.grown G hh.2.2 hh.2.1, hh.2.2⟩
end Go.Proofs.YtmnbakalcpanlaaGreatDoor
