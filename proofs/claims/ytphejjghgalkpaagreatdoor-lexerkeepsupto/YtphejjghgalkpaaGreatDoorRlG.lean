import Derived.Test.YtphejjghgalkpaaGreatDoorRs3
import Derived.Test.YtphejjghgalkpaaGreatDoorRlB
import Derived.Test.YtphejjghgalkpaaGreatDoorRlE
import Derived.Test.YtphejjghgalkpaaGreatDoorRlF
import Derived.Test.YtphejjghgalkpaaGreatDoorLc5
namespace Go.Proofs.YtphejjghgalkpaaGreatDoor
open Go.ChangeShapes Go.WideShapes Go.ChangeAt Go.RowKit Go.Maps Go.WideMaps
set_option linter.unusedVariables false
set_option linter.unusedSimpArgs false

set_option maxRecDepth 1000000 in
set_option maxHeartbeats 4000000 in
theorem quoted_96 (b : Nat) (s : ByteArray) (p : Nat) (hs : s.size ≤ 4294967280) (hp : p < s.size) (hc : (s[p]'hp).toNat = 96) (w : World) (hb : w.cell? ⟨b, 0, none⟩ = some (.string s)) :
    Calls Tryz.prog 62 #[.pointer (some ⟨b, 0, none⟩), .int .i64 (p : Int)] w fun e w' => e = .returned (.tuple #[tokV p (quP s p), fltV (quP s p)]) ∧ Below w.heap.size w w' := by
  have hbt : bt s p = 96 := by rw [bt_in hp, hc]
  have hqp : quP s p = if fnd s 96 (p + 1) < s.size then .ok 5 (fnd s 96 (p + 1) + 1) else .no 22 p := by unfold quP; rw [if_pos hbt]
  rw [hqp]
  have hbl : b < w.heap.size := World.block_lt_of_cell? _ _ hb
  have hp' : (p : Int) < (s.size : Int) := by omega
  obtain ⟨w2, e2, hw, hs2, hX⟩ := start2 w b s hb
  have HE2 : Hid ((w.alloc (.cells #[.int .u8 0, .int .i64 0, .int .i64 0] 39)).alloc (.cells #[.int .i64 0, .int .i64 0, .int .i64 0] 31) = w2) := e2
  have HX : Hid (∀ v, Below w2.heap.size w2 v → Bx v w.heap.size #[.int .u8 0, .int .i64 0, .int .i64 0] 39 ∧ Bx v (w.heap.size + 1) #[.int .i64 0, .int .i64 0, .int .i64 0] 31 ∧ v.cell? ⟨b, 0, none⟩ = some (.string s) ∧ b < v.heap.size ∧ Below w.heap.size w v) := hX
  have HW2 : Hid (Below w.heap.size w w2) := hw
  obtain ⟨-, -, c2, b2, -⟩ := hX w2 (Below.refl _ _)
  have HR : Hid (Calls Tryz.prog 90 #[.pointer (some ⟨b, 0, none⟩), .int .i64 (p : Int)] w2 fun e w' => e = .returned (.tuple #[tokV p (if fnd s 96 (p + 1) < s.size then .ok 5 (fnd s 96 (p + 1) + 1) else .no 22 p), fltV (if fnd s 96 (p + 1) < s.size then .ok 5 (fnd s 96 (p + 1) + 1) else .no 22 p)]) ∧ Below w2.heap.size w2 w') := raw_any b s p hs hp w2 c2
  clear e2 hw hX hb
  clear hqp hbt
  by_cases hf : fnd s 96 (p + 1) < s.size
  · rw [if_pos hf] at HR ⊢
    obtain ⟨T, hT⟩ : ∃ T, fnd s 96 (p + 1) + 1 = T := ⟨_, rfl⟩
    try rw [hT] at HR ⊢
    have HR' : Hid (Calls Tryz.prog 90 #[.pointer (some ⟨b, 0, none⟩), .int .i64 (p : Int)] w2 fun e w' => e = .returned (.tuple #[.agg #[.int .u8 5, .int .i64 (p : Int), .int .i64 (T : Int)], .agg #[.int .i64 0, .int .i64 0, .int .i64 0]]) ∧ Below w2.heap.size w2 w') := HR
    clear HR
    go_enter Tryz.func62, Tryz.ntmps62
    go_upto_region 1 with fail
    rw [HE2.out]
    go_wp2_with (go_at_call 90; (with_reducible refine HR'.out.mono ?_); rintro e w4 ⟨rfl, hb4⟩; obtain ⟨Y0, Y1, -, -, HWv⟩ := HX.out w4 hb4; have HW4 : Hid (Below w.heap.size w w4) := HWv; have HY0 : Hid (Bx w4 w.heap.size #[.int .u8 0, .int .i64 0, .int .i64 0] 39) := Y0; have HY1 : Hid (Bx w4 (w.heap.size + 1) #[.int .i64 0, .int .i64 0, .int .i64 0] 31) := Y1; obtain ⟨z0, z1, z2, z3, z4, z5, zf, zh⟩ := two_of Y0 Y1; have f0 := zf 0; have f1 := zf 1; have f2 := zf 2; have h0 := zh 0; have h1 := zh 1; have h2 := zh 2; clear HWv Y0 Y1 zf zh; clear hb4)
    obtain ⟨r0, r1, r2, r3, r4, r5⟩ := two_boxes HY0.out HY1.out (.int .u8 5) (.int .i64 (p : Int)) (.int .i64 (T : Int)) (.int .i64 0) (.int .i64 0) (.int .i64 0)
    refine bodyPost_ret (v := .tuple #[.agg #[.int .u8 5, .int .i64 (p : Int), .int .i64 (T : Int)], .agg #[.int .i64 0, .int .i64 0, .int .i64 0]]) (by simp [results, Tryz.results62, go_sem, r0, r1, r2, r3, r4, r5]) rfl ⟨rfl, bel_two HW4.out (Nat.le_refl _)⟩
  · rw [if_neg hf] at HR ⊢
    obtain ⟨T, hT⟩ : ∃ T, fnd s 96 (p + 1) + 1 = T := ⟨_, rfl⟩
    try rw [hT] at HR ⊢
    have HR' : Hid (Calls Tryz.prog 90 #[.pointer (some ⟨b, 0, none⟩), .int .i64 (p : Int)] w2 fun e w' => e = .returned (.tuple #[.agg #[.int .u8 0, .int .i64 0, .int .i64 0], .agg #[.int .i64 22, .int .i64 0, .int .i64 (p : Int)]]) ∧ Below w2.heap.size w2 w') := HR
    clear HR
    go_enter Tryz.func62, Tryz.ntmps62
    go_upto_region 1 with fail
    rw [HE2.out]
    go_wp2_with (go_at_call 90; (with_reducible refine HR'.out.mono ?_); rintro e w4 ⟨rfl, hb4⟩; obtain ⟨Y0, Y1, -, -, HWv⟩ := HX.out w4 hb4; have HW4 : Hid (Below w.heap.size w w4) := HWv; have HY0 : Hid (Bx w4 w.heap.size #[.int .u8 0, .int .i64 0, .int .i64 0] 39) := Y0; have HY1 : Hid (Bx w4 (w.heap.size + 1) #[.int .i64 0, .int .i64 0, .int .i64 0] 31) := Y1; obtain ⟨z0, z1, z2, z3, z4, z5, zf, zh⟩ := two_of Y0 Y1; have f0 := zf 0; have f1 := zf 1; have f2 := zf 2; have h0 := zh 0; have h1 := zh 1; have h2 := zh 2; clear HWv Y0 Y1 zf zh; clear hb4)
    obtain ⟨r0, r1, r2, r3, r4, r5⟩ := two_boxes HY0.out HY1.out (.int .u8 0) (.int .i64 0) (.int .i64 0) (.int .i64 22) (.int .i64 0) (.int .i64 (p : Int))
    refine bodyPost_ret (v := .tuple #[.agg #[.int .u8 0, .int .i64 0, .int .i64 0], .agg #[.int .i64 22, .int .i64 0, .int .i64 (p : Int)]]) (by simp [results, Tryz.results62, go_sem, r0, r1, r2, r3, r4, r5]) rfl ⟨rfl, bel_two HW4.out (Nat.le_refl _)⟩

theorem quoted_any (b : Nat) (s : ByteArray) (p : Nat) (hs : s.size ≤ 4294967280) (hp : p < s.size) (hc : bt s p = 39 ∨ bt s p = 34 ∨ bt s p = 96) (w : World) (hb : w.cell? ⟨b, 0, none⟩ = some (.string s)) (hT : U8 w) :
    Calls Tryz.prog 62 #[.pointer (some ⟨b, 0, none⟩), .int .i64 (p : Int)] w fun e w' => e = .returned (.tuple #[tokV p (quP s p), fltV (quP s p)]) ∧ Below w.heap.size w w' := by
  rw [bt_in hp] at hc
  rcases hc with h | h | h
  · exact quoted_39 b s p hs hp h w hb hT
  · exact quoted_34 b s p hs hp h w hb hT
  · exact quoted_96 b s p hs hp h w hb
/-- where a scanner works: what was there before it, itself, the keywords -/
structure In (w0 : World) (b M : Nat) (s : ByteArray) (v : World) : Prop where
  bel : Below w0.heap.size w0 v
  sg : Sg v b M s
  map : v.ownsMap Tryz.prog 9 (plainElem (H := Unit) Tryz.prog 37) M 25 (KW 25)
/-- what the scanner asks of the world that was there -/
structure Gd (w0 : World) (b M : Nat) : Prop where
  lt : Lt w0
  spl : Spl w0
  max : ∃ m, w0.cell? ⟨4, 0, none⟩ = some (.int .i64 m)
  b0 : w0.heap.size ≤ b
  m0 : w0.heap.size ≤ M
  ne : M ≠ b
theorem In.below {w0 v v' : World} {b M : Nat} {s : ByteArray} (h : In w0 b M s v) (hb : Below v.heap.size v v') : In w0 b M s v' :=
  ⟨h.bel.trans (hb.mono h.bel.size), h.sg.below hb, ownsMap_below h.map hb (ownsMap_lt h.map)⟩
theorem In.grown {w0 v v' : World} {b M : Nat} {s : ByteArray} (h : In w0 b M s v) (G : Gd w0 b M) (hg : v.grownBy v' (some b)) (hs : Sg v' b M s) : In w0 b M s v' := by
  refine ⟨?_, hs, ?_⟩
  · exact ⟨hg.os.trans h.bel.os, hg.tape.trans h.bel.tape, hg.output.trans h.bel.output, Nat.le_trans h.bel.size hg.size, fun k hk => (hg.block k (Nat.lt_of_lt_of_le hk h.bel.size) (by have := G.b0; simp; omega)).trans (h.bel.block k hk)⟩
  · obtain ⟨es, clock, h1, h2, h3, h4⟩ := h.map
    exact ⟨es, clock, (hg.block M (ownsMap_lt h.map) (by have := G.ne; simp; omega)).trans h1, h2, h3, h4⟩
theorem In.cell {w0 v : World} {b M : Nat} {s : ByteArray} (h : In w0 b M s v) : v.cell? ⟨b, 0, none⟩ = some (.string s) ∧ v.cell? ⟨b, 2, none⟩ = some (.map (some M)) := by
  obtain ⟨d, mk, h1, -, -⟩ := h.sg
  exact ⟨h1.cell 0, h1.cell 2⟩
theorem In.max {w0 v : World} {b M : Nat} {s : ByteArray} (h : In w0 b M s v) (G : Gd w0 b M) : ∃ m, v.cell? ⟨4, 0, none⟩ = some (.int .i64 m) := by
  obtain ⟨m, hm⟩ := G.max
  exact ⟨m, (h.bel.cell (p := ⟨4, 0, none⟩) (World.block_lt_of_cell? _ _ hm)).trans hm⟩
theorem Gd.nb {w0 : World} {b M : Nat} (G : Gd w0 b M) : 0 ≠ b := by have := G.spl.1; have := G.b0; omega
/-- the rows' functions -/
def fitN : Nat → Nat
  | 0 => 53
  | 1 => 55
  | 2 => 57
  | 3 => 59
  | 4 => 61
  | _ => 63
def cutN : Nat → Nat
  | 0 => 54
  | 1 => 56
  | 2 => 58
  | 3 => 60
  | 4 => 62
  | _ => 64
theorem fits_any {w0 : World} {b M : Nat} (G : Gd w0 b M) (s : ByteArray) (p r : Nat) (hs : s.size ≤ 4294967280) (hp : p < s.size) (hr : r < 6) (v : World) (h : In w0 b M s v) :
    Calls Tryz.prog (fitN r) #[.pointer (some ⟨b, 0, none⟩), .int .i64 (p : Int)] v fun e v' => e = .returned (.bool (fR s p r)) ∧ In w0 b M s v' ∧ v.grownBy v' (some b) := by
  have still : ∀ {e : Ending} {x : Ending} {v' : World}, e = x ∧ v' = v → e = x ∧ In w0 b M s v' ∧ v.grownBy v' (some b) := fun {e x v'} hh => ⟨hh.1, by rw [hh.2]; exact h, by rw [hh.2]; exact grownBy_of_below (Below.refl _ _) _⟩
  have more : ∀ {e : Ending} {x : Ending} {v' : World}, e = x ∧ Below v.heap.size v v' → e = x ∧ In w0 b M s v' ∧ v.grownBy v' (some b) := fun {e x v'} hh => ⟨hh.1, h.below hh.2, grownBy_of_below hh.2 _⟩
  match r, hr with
  | 0, _ => exact (atBlank_any b s p hs hp v h.cell.1).mono fun e v' hh => still hh
  | 1, _ => exact (atNote_any b s p hs hp v h.cell.1).mono fun e v' hh => still hh
  | 2, _ => exact (atLetter_any b s p hs hp v h.cell.1 (G.lt.below h.bel)).mono fun e v' hh => more hh
  | 3, _ => exact (atDigit_any b s p hs hp v h.cell.1).mono fun e v' hh => still hh
  | 4, _ => exact (atQuote_any b s p hs hp v h.cell.1).mono fun e v' hh => still hh
  | 5, _ => exact (atMark_any b M s p hs hp v (G.spl.below h.bel) G.nb h.sg).mono fun e v' hh => ⟨hh.1, h.grown G hh.2.2 hh.2.1, hh.2.2⟩
theorem cuts_any {w0 : World} {b M : Nat} (G : Gd w0 b M) (s : ByteArray) (p r : Nat) (hs : s.size ≤ 4294967280) (hp : p < s.size) (hr : r < 6) (hf : fR s p r = true) (v : World) (h : In w0 b M s v) :
    Calls Tryz.prog (cutN r) #[.pointer (some ⟨b, 0, none⟩), .int .i64 (p : Int)] v fun e v' => e = .returned (.tuple #[tokV p (cR s p r), fltV (cR s p r)]) ∧ In w0 b M s v' ∧ v.grownBy v' (some b) := by
  have more : ∀ {e : Ending} {x : Ending} {v' : World}, e = x ∧ Below v.heap.size v v' → e = x ∧ In w0 b M s v' ∧ v.grownBy v' (some b) := fun {e x v'} hh => ⟨hh.1, h.below hh.2, grownBy_of_below hh.2 _⟩
  match r, hr with
  | 0, _ => exact (blanks_any b s p hs hp v h.cell.1).mono fun e v' hh => more hh
  | 1, _ =>
    have hf' : (bt s p = 47 ∧ bt s (p + 1) = 47) ∨ (bt s p = 47 ∧ bt s (p + 1) = 42) := by simpa [fR] using hf
    exact (note_any b s p hs hp (by omega) (by omega) v h.cell.1 (h.max G)).mono fun e v' hh => more hh
  | 2, _ => exact (name_any b s p hs hp M v h.cell.1 h.cell.2 h.map (G.lt.below h.bel)).mono fun e v' hh => more hh
  | 3, _ => exact (number_any b s p hs hp (of_decide_eq_true hf) v h.cell.1 (G.lt.below h.bel)).mono fun e v' hh => more hh
  | 4, _ => exact (quoted_any b s p hs hp (of_decide_eq_true hf) v h.cell.1 (G.lt.below h.bel).1).mono fun e v' hh => more hh
  | 5, _ =>
    cases hO : onT TT 0 (bt s p) with
    | none => have : (onT TT 0 (bt s p)).isSome = true := hf; rw [hO] at this; cases this
    | some x => exact (mark_any b M s p x hs hp hO v (G.spl.below h.bel) G.nb h.sg).mono fun e v' hh => ⟨hh.1, h.grown G hh.2.2 hh.2.1, hh.2.2⟩
end Go.Proofs.YtphejjghgalkpaaGreatDoor

namespace Go.Proofs.YtphejjghgalkpaaGreatDoor
open Go.ChangeShapes Go.WideShapes Go.ChangeAt Go.RowKit
set_option linter.unusedVariables false
set_option linter.unusedSimpArgs false

theorem nlc_not {s : ByteArray} {f t : Nat} (ht : t ≤ s.size) (hno : ∀ i, f ≤ i → i < t → bt s i ≠ 10) (k : Int) : nlc s ⟨k, f, t⟩ = false := by
  have hz : (s.extract f t).size = t - f := by rw [ByteArray.size_extract]; omega
  have e : (s.extract f t).data.toList = dl (s.extract f t) 0 := by rw [dl_drop]; rfl
  have hx := idx_fnd (s.extract f t) 10 (s.extract f t).size 0 (by omega) (by omega)
  have e10 : (10 : UInt8).toNat = 10 := rfl
  have hn : ¬ fnd (s.extract f t) 10 0 < (s.extract f t).size := by
    intro hl
    rcases fnd_stop (s.extract f t) 10 _ 0 (Nat.le_refl _) with h | h
    · rw [bt_ex _ _ _ _ ht, if_pos (by omega)] at h
      exact hno _ (by omega) (by omega) h
    · omega
  rw [e10, if_neg hn, ← e] at hx
  rw [nlc_nat, hx]
  decide
theorem fnd_none (s : ByteArray) (c : Nat) : ∀ m k i, s.size - k ≤ m → k ≤ i → i < fnd s c k → bt s i ≠ c
  | m, k, i, hm, h1, h2 => by
    by_cases h : k < s.size ∧ bt s k ≠ c
    · rw [fnd_in h.1 h.2] at h2
      by_cases e : k = i
      · subst e; exact h.2
      · match m, hm with
        | 0, hm => omega
        | m + 1, hm => exact fnd_none s c m (k + 1) i (by omega) (by omega) h2
    · rw [fnd_out h] at h2; omega
/-- how feed ends -/
def FdE (s : ByteArray) (p : Nat) (e : Ending) : Prop := ∃ b, e = .returned (.bool b) ∧ ((cut s p).2 = none → b = aft s (cut s p).1)
theorem FdE.mk {s : ByteArray} {p : Nat} (b : Bool) (h : (cut s p).2 = none → aft s (cut s p).1 = b) : FdE s p (.returned (.bool b)) := ⟨b, rfl, fun h' => (h h').symm⟩

set_option maxRecDepth 1000000 in
set_option maxHeartbeats 8000000 in
theorem rfeed_any (s : ByteArray) (p : Nat) (hs : s.size ≤ 4294967280) (hp : p ≤ s.size) (w : World) (hT : Lt w) :
    Calls Tryz.prog 34 #[.string s, .int .i64 (p : Int)] w fun e w' => FdE s p e ∧ Below w.heap.size w w' := by
  have HT : Hid (∀ v, Below w.heap.size w v → Lt v) := fun v hv => hT.below hv
  have HF : Hid (∀ b, ((cut s p).2 = none → aft s (cut s p).1 = b) → FdE s p (.returned (.bool b))) := fun b h => FdE.mk b h
  clear hT
  go_enter Tryz.func34, Tryz.ntmps34
  go_wp2
  go_loopw [1] (fun st wr => ∃ q : Nat, q ≤ s.size ∧ st = .int .i64 (q : Int) ∧ ((cut s p).2 = none → (cut s q).2 = none ∧ aft s (cut s q).1 = aft s (cut s p).1) ∧ Below w.heap.size w wr) (fun st _ => s.size - (intOf st).toNat)
  case atStart => exact ⟨p, hp, rfl, fun h => ⟨h, rfl⟩, Below.refl _ _⟩
  case round =>
    obtain ⟨q, hqs, rfl, hcut, hbel⟩ := hrel
    have HB : Hid (Below w.heap.size w wr) := hbel
    have HC : Hid ((cut s p).2 = none → (cut s q).2 = none ∧ aft s (cut s q).1 = aft s (cut s p).1) := hcut
    clear hbel hcut
    by_cases hlt : q < s.size
    · have hlt' : (q : Int) < (s.size : Int) := by omega
      have HP0 := rPiece_any s q hs hlt wr (HT.out wr HB.out)
      cases hc : pce s q with
      | no y z =>
        obtain ⟨y1, y2⟩ := pce_no_y hlt hc
        rw [hc] at HP0
        have HP : Hid (Calls Tryz.prog 32 #[.string s, .int .i64 (q : Int)] wr fun e w' => e = .returned (.tuple #[.int .i64 0, .int .i64 0, .int .i64 (y : Int), .int .i64 (z : Int)]) ∧ Below wr.heap.size wr w') := HP0
        have hy : ((y : Int) != 0) = true := by rw [bne_iff_ne]; omega
        have HE : Hid (FdE s p (.returned (.bool false))) := HF.out false fun h => by
          have := (HC.out h).1
          rw [cut_no hlt hc] at this
          cases this
        clear HP0 hc
        go_wp2_with (go_at_call 32; (with_reducible refine HP.out.mono ?_); rintro e w3 ⟨rfl, hb3⟩; have HB3 : Hid (Below w.heap.size w w3) := HB.out.trans (hb3.mono HB.out.size); clear hb3)
        go_ret
        exact ⟨HE.out, HB3.out⟩
      | ok k t =>
        obtain ⟨t1, t2, t3⟩ := pce_ok hlt hc
        have hsh := pce_shape hlt hc
        rw [hc] at HP0
        have HP : Hid (Calls Tryz.prog 32 #[.string s, .int .i64 (q : Int)] wr fun e w' => e = .returned (.tuple #[.int .i64 (k : Int), .int .i64 (t : Int), .int .i64 0, .int .i64 0]) ∧ Below wr.heap.size wr w') := HP0
        have HC2 : Hid ((cut s p).2 = none → (cut s t).2 = none ∧ aft s ((⟨k, q, t⟩ : Tk) :: (cut s t).1) = aft s (cut s p).1) := fun h => by
          have := HC.out h
          rw [cut_ok hlt hc] at this
          exact this
        clear HP0
        by_cases hk1 : 1 < k
        · have hk' : (k : Int) > 1 := by omega
          have HE : Hid (FdE s p (.returned (.bool false))) := HF.out false fun h => by
            rw [← (HC2.out h).2, aft]
            simp only
            rw [if_neg (by omega)]
          clear hsh hc
          go_wp2_with (go_at_call 32; (with_reducible refine HP.out.mono ?_); rintro e w3 ⟨rfl, hb3⟩; have HB3 : Hid (Below w.heap.size w w3) := HB.out.trans (hb3.mono HB.out.size); clear hb3)
          go_ret
          exact ⟨HE.out, HB3.out⟩
        · have hk' : ¬ (k : Int) > 1 := by omega
          have HON : Hid (nlc s ⟨k, q, t⟩ = false → (cut s p).2 = none → (cut s t).2 = none ∧ aft s (cut s t).1 = aft s (cut s p).1) := fun hn h => by
            have := HC2.out h
            refine ⟨this.1, ?_⟩
            rw [← this.2, aft]
            simp only
            rw [if_pos (by omega), hn]
            rfl
          have HYE : Hid (nlc s ⟨k, q, t⟩ = true → FdE s p (.returned (.bool true))) := fun hn => HF.out true fun h => by
            rw [← (HC2.out h).2, aft]
            simp only
            rw [if_pos (by omega), hn]
            rfl
          have HNL : Hid (∀ i, q ≤ i → i < t → bt s i = 10 → nlc s ⟨k, q, t⟩ = true) := fun i h1 h2 h3 => nlc_has t2 h1 h2 h3 k
          have HNN : Hid ((∀ i, q ≤ i → i < t → bt s i ≠ 10) → nlc s ⟨k, q, t⟩ = false) := fun h => nlc_not t2 h k
          by_cases hline : k = 1 ∧ bt s (q + 1) = 47
          · have hb47 : Hid (bt s q = 47 ∧ t = fnd s 10 q) := by
              rcases hsh with e | e | e | e | e | e
              · omega
              · exact ⟨e.2.1, e.2.2.2⟩
              · omega
              · omega
              · omega
              · omega
            have HBG : Hid (∀ v, Calls Tryz.prog 66 #[.string s, .int .i64 (q : Int), .string ⟨#[47, 42]⟩] v fun e w' => e = .returned (.bool false) ∧ w' = v) := fun v => by
              have := rbegins_two s q 47 42 hs hqs v
              have e : decide (bt s q = (47 : UInt8).toNat ∧ bt s (q + 1) = (42 : UInt8).toNat) = false := by
                have e42 : (42 : UInt8).toNat = 42 := rfl
                rw [decide_eq_false_iff_not, e42]; have := hline.2; omega
              rw [e] at this
              exact this
            have HNF : Hid (nlc s ⟨k, q, t⟩ = false) := HNN.out fun i h1 h2 => fnd_none s 10 _ q i (Nat.le_refl _) h1 (by rw [← hb47.out.2]; exact h2)
            have hk0 : ((k : Int) == 0) = false := by rw [beq_eq_false_iff_ne]; omega
            clear hsh hc
            go_wp2_with (first
              | (go_at_call 32; (with_reducible refine HP.out.mono ?_); rintro e w3 ⟨rfl, hb3⟩; have HB3 : Hid (Below w.heap.size w w3) := HB.out.trans (hb3.mono HB.out.size); clear hb3)
              | (go_at_call 66; (with_reducible refine (HBG.out _).mono ?_); rintro e w4 ⟨rfl, hw4⟩; obtain rfl := hw4.symm))
            go_roundw
            case rel => exact ⟨t, t2, rfl, HON.out HNF.out, HB3.out⟩
            case measure => simp [intOf]; omega
          · have hcase : ((k : Int) == 0) = true ∨ ((k : Int) == 0) = false ∧ (k = 1 ∧ bt s q = 47 ∧ bt s (q + 1) = 42) := by
              rcases hsh with e | e | e | e | e | e
              · left; rw [beq_iff_eq]; omega
              · exact absurd ⟨e.1, e.2.2.1⟩ hline
              · right; exact ⟨by rw [beq_eq_false_iff_ne]; omega, e.1, e.2.1, e.2.2.1⟩
              · omega
              · omega
              · omega
            have HBG : Hid (bt s q = 47 ∧ bt s (q + 1) = 42 → ∀ v, Calls Tryz.prog 66 #[.string s, .int .i64 (q : Int), .string ⟨#[47, 42]⟩] v fun e w' => e = .returned (.bool true) ∧ w' = v) := fun hh v => by
              have := rbegins_two s q 47 42 hs hqs v
              have e : decide (bt s q = (47 : UInt8).toNat ∧ bt s (q + 1) = (42 : UInt8).toNat) = true := by
                have e42 : (42 : UInt8).toNat = 42 := rfl
                have e47 : (47 : UInt8).toNat = 47 := rfl
                rw [decide_eq_true_eq, e42, e47]; exact hh
              rw [e] at this
              exact this
            clear hsh hc hline
            rcases hcase with hk0 | ⟨hk0, -, hcc⟩
            all_goals
              go_wp2_with (first
                | (go_at_call 32; (with_reducible refine HP.out.mono ?_); rintro e w3 ⟨rfl, hb3⟩; have HB3 : Hid (Below w.heap.size w w3) := HB.out.trans (hb3.mono HB.out.size); clear hb3)
                | (go_at_call 66; (with_reducible refine (HBG.out hcc _).mono ?_); rintro e w4 ⟨rfl, hw4⟩; obtain rfl := hw4.symm))
              obtain ⟨wo, hwo⟩ : ∃ wo, wo = wr := ⟨_, rfl⟩
              go_loopw [9] (fun si wi => ∃ i : Nat, q ≤ i ∧ i ≤ t ∧ si = .int .i64 (i : Int) ∧ (∀ j, q ≤ j → j < i → bt s j ≠ 10) ∧ wi = w3) (fun si _ => t - (intOf si).toNat)
              case atStart => exact ⟨q, Nat.le_refl _, by omega, rfl, fun j h1 h2 => by omega, by first | rfl | trivial⟩
              case round =>
                obtain ⟨i, hi1, hi2, rfl, hno, rfl⟩ := hrel
                have HNO : Hid (∀ j, q ≤ j → j < i → bt s j ≠ 10) := hno
                clear hno
                by_cases hit : i < t
                · have hit' : (i : Int) < (t : Int) := by omega
                  have his : i < s.size := by omega
                  have his' : (i : Int) < (s.size : Int) := by omega
                  have hbt := bt_in his
                  obtain ⟨c, hcD⟩ : ∃ c, (s[i]'his).toNat = c := ⟨_, rfl⟩
                  by_cases h10 : c = 10
                  · subst h10
                    have HE := HYE.out (HNL.out i hi1 hit (by rw [hbt, hcD]))
                    clear hbt
                    go_wp2
                    go_ret
                    exact ⟨HE, HB3.out⟩
                  · have h10' : ((c : Int) == 10) = false := by rw [beq_eq_false_iff_ne]; omega
                    have HN2 : Hid (∀ j, q ≤ j → j < i + 1 → bt s j ≠ 10) := fun j h1 h2 => by
                      by_cases h : j = i
                      · subst h; rw [hbt, hcD]; exact h10
                      · exact HNO.out j h1 (by omega)
                    clear hbt
                    go_wp2
                    go_roundw
                    case rel => exact ⟨i + 1, by omega, by omega, by go_num, HN2.out, by first | rfl | trivial⟩
                    case measure => simp [intOf]; omega
                · have hit' : ¬ (i : Int) < (t : Int) := by omega
                  have HNF : Hid (nlc s ⟨k, q, t⟩ = false) := HNN.out fun j h1 h2 => HNO.out j h1 (by omega)
                  go_wp2
                  go_roundw
                  case rel => exact ⟨t, t2, rfl, HON.out HNF.out, HB3.out⟩
                  case measure => simp [intOf]; omega
    · have hge : ¬ (q : Int) < (s.size : Int) := by omega
      have HE : Hid (FdE s p (.returned (.bool true))) := HF.out true fun h => by
        rw [← (HC.out h).2, cut_end hlt]
        rfl
      go_wp2
      go_ret
      exact ⟨HE.out, HB.out⟩
end Go.Proofs.YtphejjghgalkpaaGreatDoor
