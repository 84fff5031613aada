import Derived.Test.YtmnbakalcpanlaaGreatDoorLmp
import Derived.Test.YtmnbakalcpanlaaGreatDoorTsl
import Derived.LoopN
import Derived.Laws.EntriesVeiled
namespace Go.Proofs.YtmnbakalcpanlaaGreatDoor
open Go.ChangeShapes Go.WideShapes Go.ChangeAt Go.RowKit Go.Maps Go.WideMaps
set_option linter.unusedVariables false
set_option linter.unusedSimpArgs false

/-- a scanner of a text stands -/
def Scn (w : World) (b M : Nat) (s : ByteArray) : Prop := Bx w b #[.string s, .slice (some ⟨b + 1, 0, none⟩) 6 6, .map (some M), .int .u32 0, .int .i32 0, .int .u32 0, .pointer none] 77 ∧ Bx w (b + 1) (sts b) 80
theorem Scn.below {w w' : World} {b M : Nat} {s : ByteArray} (h : Scn w b M s) (hb : Below w.heap.size w w') : Scn w' b M s := ⟨h.1.below hb h.1.lt, h.2.below hb h.2.lt⟩
/-- its cells that are read -/
theorem Scn.cells {w : World} {b M : Nat} {s : ByteArray} (h : Scn w b M s) : w.cell? ⟨b, 0, none⟩ = some (.string s) ∧ w.cell? ⟨b, 1, none⟩ = some (.slice (some ⟨b + 1, 0, none⟩) 6 6) ∧
    w.cell? ⟨b + 1, 0, none⟩ = some (.func (Fn.func 28) #[.pointer (some ⟨b, 0, none⟩)] #[]) ∧ w.cell? ⟨b + 1, 1, none⟩ = some (.func (Fn.func 29) #[.pointer (some ⟨b, 0, none⟩)] #[]) ∧
    w.cell? ⟨b + 1, 2, none⟩ = some (.func (Fn.func 30) #[.pointer (some ⟨b, 0, none⟩)] #[]) ∧ w.cell? ⟨b + 1, 3, none⟩ = some (.func (Fn.func 31) #[.pointer (some ⟨b, 0, none⟩)] #[]) ∧
    w.cell? ⟨b + 1, 4, none⟩ = some (.func (Fn.func 32) #[.pointer (some ⟨b, 0, none⟩)] #[]) ∧ w.cell? ⟨b + 1, 5, none⟩ = some (.func (Fn.func 33) #[.pointer (some ⟨b, 0, none⟩)] #[]) ∧
    w.cell? ⟨b + 1, 6, none⟩ = some (.func (Fn.func 34) #[.pointer (some ⟨b, 0, none⟩)] #[]) ∧ w.cell? ⟨b + 1, 7, none⟩ = some (.func (Fn.func 35) #[.pointer (some ⟨b, 0, none⟩)] #[]) ∧
    w.cell? ⟨b + 1, 8, none⟩ = some (.func (Fn.func 36) #[.pointer (some ⟨b, 0, none⟩)] #[]) ∧ w.cell? ⟨b + 1, 9, none⟩ = some (.func (Fn.func 37) #[.pointer (some ⟨b, 0, none⟩)] #[]) :=
  ⟨h.1.cell 0, h.1.cell 1, h.2.cell 0, h.2.cell 1, h.2.cell 2, h.2.cell 3, h.2.cell 4, h.2.cell 5, h.2.cell 6, h.2.cell 7, h.2.cell 8, h.2.cell 9⟩

set_option maxRecDepth 100000 in
theorem never_any (p : Int) (w : World) : Calls Tryz.prog 14 #[.int .i64 p] w fun e w' => e = .returned (.bool false) ∧ w' = w := by
  go_enter Tryz.func14, Tryz.ntmps14
  go_wp2
  go_ret
  exact ⟨rfl, rfl⟩

/-- a row stands while a box of another type is written -/
theorem own_put3 {w : World} {B g n k : Nat} {e t : TypeId} {v : Value} {xs : List Value} {vs : Array Value} (h : w.ownsRow B e k v n xs) (X : Bx w g vs t) (hne : t ≠ e) {v0 v1 v2 : Value} : (((w.setCell ⟨g, 0, none⟩ v0).setCell ⟨g, 1, none⟩ v1).setCell ⟨g, 2, none⟩ v2).ownsRow B e k v n xs := by
  have hv : v.ownBlock ≠ some g := by
    intro e1
    obtain ⟨c, fz, hh⟩ := row_kindR h g e1
    have := (show w.heap[g]? = some (.cells vs t (0, 0)) from X).symm.trans hh
    cases this
    exact hne rfl
  exact ownsRow_setCell_other (ownsRow_setCell_other (ownsRow_setCell_other h (a := ⟨g, 0, none⟩) hv v0) (a := ⟨g, 1, none⟩) hv v1) (a := ⟨g, 2, none⟩) hv v2
theorem cells_new3 (w : World) (o o' : Obj) (l : List Value) (t : TypeId) : ∀ j u, l[j]? = some u → (((w.alloc o).alloc o').alloc (.cells l.toArray t)).cell? ((⟨w.heap.size + 1 + 1, 0, none⟩ : Addr).add j) = some u := by
  intro j u h
  have h1 := cells_new ((w.alloc o).alloc o') l t j u h
  have e : ((w.alloc o).alloc o').heap.size = w.heap.size + 1 + 1 := by simp
  rw [e] at h1
  exact h1

set_option maxRecDepth 1000000 in
set_option maxHeartbeats 8000000 in
theorem pieces_text (b M : Nat) (s : ByteArray) (hs : s.size ≤ 4294967280) (h0 : 0 < s.size) (hc : (s[0]'h0).toNat = 34) (hq : quP s 0 = .ok 5 s.size) (w : World) (hS : Scn w b M s) (hT : Lt w) :
    Calls Tryz.prog 13 #[.pointer (some ⟨b, 0, none⟩), .int .i64 0, .func (Fn.func 14) #[] #[]] w fun e w' => ∃ a c, e = .returned (.tuple #[.slice a 1 c, .int .i64 (s.size : Int), .agg #[.int .i64 0, .int .i64 0, .int .i64 0]]) ∧ w'.ownsRow w.heap.size 50 3 (.slice a 1 c) 1 [.int .u8 5, .int .i64 0, .int .i64 (s.size : Int)] ∧ Below w.heap.size w w' := by
  obtain ⟨i0, hi, hz0, hz1, hz2⟩ := info_parts (show (Tryz.prog.info? 50).map (fun i => (i.zero, i.size, i.bytes)) = some (some (.agg #[.int .u8 0, .int .i64 0, .int .i64 0]), 3, 24) by kernel_rfl)
  have hb1 : b < w.heap.size := hS.1.lt
  have hb2 : b + 1 < w.heap.size := hS.2.lt
  obtain ⟨w2, e2, hw, hs2, B0⟩ := bx1 w #[.int .i64 0, .int .i64 0, .int .i64 0] 26
  have HE2 : Hid (w.alloc (.cells #[.int .i64 0, .int .i64 0, .int .i64 0] 26) = w2) := e2
  have HB2 : Hid (Below w.heap.size w w2) := hw
  have HX : Hid (∀ v, Below w2.heap.size w2 v → Scn v b M s ∧ Lt v ∧ Bx v w.heap.size #[.int .i64 0, .int .i64 0, .int .i64 0] 26 ∧ Below w.heap.size w v) := fun v h => ⟨(hS.below hw).below h, (hT.below hw).below h, B0.below h B0.lt, hw.trans (h.mono hw.size)⟩
  have h0' : (0 : Int) < (s.size : Int) := by omega
  have hbt : bt s 0 = 34 := by rw [bt_in h0, hc]
  have hrn : rn s 0 = 34 := by have := ((dec_facts s 0 h0).2.2.1 (by omega)).2; omega
  have hsz2 : b + 1 < w2.heap.size := by omega
  have hsz1 : b < w2.heap.size := by omega
  obtain ⟨t0, t1, y0, y1, y2, y3, y4, y5, y6, y7, y8, y9⟩ := (HX.out w2 (Below.refl _ _)).1.cells
  have hcf : ∀ (f : Nat) (first cap args : Array Value) (w : World), (callFunc f args).run Tryz.prog w = (callFunc f args).run Tryz.prog w := fun _ _ _ _ _ => rfl
  clear e2 hw hs2 B0 hS hT hcf
  go_enter Tryz.func13, Tryz.ntmps13
  go_wp2
  go_step3
  go_wp2
  go_step3
  go_wp2
  rw [HE2.out]
  refine wp_loop_rounds 2 ?_
  rw [rounds_succ]
  go_wp2_with (go_at_call 14; (with_reducible refine (never_any _ _).mono ?_); rintro e w3 ⟨rfl, hw3⟩; have hw4 := hw3.symm; clear hw3; subst hw4)
  have HA : Hid (∀ v, Below w2.heap.size w2 v → Calls Tryz.prog 28 #[.pointer (some ⟨b, 0, none⟩), .int .i64 0] v fun e w' => e = .returned (.bool false) ∧ w' = v) := fun v hv => by
    have h := atBlank_any b s 0 hs h0 v (HX.out v hv).1.cells.1
    rw [hbt] at h
    exact h
  have HN : Hid (∀ v, Below w2.heap.size w2 v → Calls Tryz.prog 30 #[.pointer (some ⟨b, 0, none⟩), .int .i64 0] v fun e w' => e = .returned (.bool false) ∧ w' = v) := fun v hv => by
    have h := atNote_any b s 0 hs h0 v (HX.out v hv).1.cells.1
    rw [hbt] at h
    simpa using h
  have HL : Hid (∀ v, Below w2.heap.size w2 v → Calls Tryz.prog 32 #[.pointer (some ⟨b, 0, none⟩), .int .i64 0] v fun e w' => e = .returned (.bool false) ∧ Below v.heap.size v w') := fun v hv => by
    have h := atLetter_any b s 0 hs h0 v (HX.out v hv).1.cells.1 (HX.out v hv).2.1
    have e : isL (rn s 0) = false := by rw [hrn]; kernel_rfl
    rw [e] at h
    exact h
  have HD : Hid (∀ v, Below w2.heap.size w2 v → Calls Tryz.prog 34 #[.pointer (some ⟨b, 0, none⟩), .int .i64 0] v fun e w' => e = .returned (.bool false) ∧ w' = v) := fun v hv => by
    have h := atDigit_any b s 0 hs h0 v (HX.out v hv).1.cells.1
    rw [hbt] at h
    exact h
  have HQ : Hid (∀ v, Below w2.heap.size w2 v → Calls Tryz.prog 36 #[.pointer (some ⟨b, 0, none⟩), .int .i64 0] v fun e w' => e = .returned (.bool true) ∧ w' = v) := fun v hv => by
    have h := atQuote_any b s 0 hs h0 v (HX.out v hv).1.cells.1
    rw [hbt] at h
    exact h
  have HC : Hid (∀ v, Below w2.heap.size w2 v → Calls Tryz.prog 37 #[.pointer (some ⟨b, 0, none⟩), .int .i64 0] v fun e w' => e = .returned (.tuple #[.agg #[.int .u8 5, .int .i64 0, .int .i64 (s.size : Int)], .agg #[.int .i64 0, .int .i64 0, .int .i64 0]]) ∧ Below v.heap.size v w') := fun v hv => by
    have h := quoted_34 b s 0 hs h0 hc v (HX.out v hv).1.cells.1 (HX.out v hv).2.1.1
    rw [hq] at h
    exact h
  refine wp_loop_rounds 5 ?_
  rw [rounds_succ]
  go_wp2_with (go_at_call 28; (with_reducible refine (HA.out _ (by go_grown)).mono ?_); rintro e w3 ⟨rfl, hw3⟩; subst hw3)
  rw [rounds_succ]
  go_wp2_with (go_at_call 30; (with_reducible refine (HN.out _ (by go_grown)).mono ?_); rintro e w3 ⟨rfl, hw3⟩; subst hw3)
  rw [rounds_succ]
  go_wp2_with (go_at_call 32; (with_reducible refine (HL.out _ (by go_grown)).mono ?_); rintro e w3 ⟨rfl, hb3⟩; have HB3 : Hid (Below w2.heap.size w2 w3) := (show Below w2.heap.size w2 _ by go_grown).trans (hb3.mono (by simp; omega)); clear hb3)
  clear t0 t1 y0 y1 y2 y3 y4 y5 y6 y7 y8 y9
  obtain ⟨t0, t1, y0, y1, y2, y3, y4, y5, y6, y7, y8, y9⟩ := (HX.out w3 HB3.out).1.cells
  have hz3 : b + 1 < w3.heap.size := by have := HB3.out.size; omega
  have hz31 : b < w3.heap.size := by omega
  have HG : Hid (∀ o, Below w2.heap.size w2 (w3.alloc o)) := fun o => HB3.out.alloc HB3.out.size o
  have HG2 : Hid (∀ o o', Below w2.heap.size w2 ((w3.alloc o).alloc o')) := fun o o' => (HG.out o).alloc (HG.out o).size o'
  rw [rounds_succ]
  go_wp2_with (go_at_call 34; (with_reducible refine (HD.out _ (HG.out _)).mono ?_); rintro e w4 ⟨rfl, hw4⟩; subst hw4)
  rw [rounds_succ]
  go_wp2_with (first
    | (go_at_call 36; (with_reducible refine (HQ.out _ (HG2.out _ _)).mono ?_); rintro e w4 ⟨rfl, hw4⟩; subst hw4)
    | (go_at_call 37; (with_reducible refine (HC.out _ (HG2.out _ _)).mono ?_); rintro e w5 ⟨rfl, hb5⟩; have HB5 : Hid (Below w2.heap.size w2 w5) := (HG2.out _ _).trans (hb5.mono (HG2.out _ _).size); clear hb5; have hz5 : b + 1 < w5.heap.size := (by have := HB5.out.size; omega); have hz51 : b < w5.heap.size := (by omega); have hw5 : w.heap.size ≤ w5.heap.size := (by have := HB2.out.size; have := HB5.out.size; omega); clear t0 t1 y0 y1 y2 y3 y4 y5 y6 y7 y8 y9; obtain ⟨t0, t1, y0, y1, y2, y3, y4, y5, y6, y7, y8, y9⟩ := (HX.out w5 HB5.out).1.cells)
    | (at_builtin; (refine wpList_append_at _ rfl (.tmp 52) (.tmp 54) 23 rfl w.heap.size 50 i0 (.agg #[.int .u8 0, .int .i64 0, .int .i64 0]) 3 24 Tryz.underlying23 hi hz0 hz1 hz2 rfl (by decide) _ 0 [] rfl (World.ownsRow_nil _ _ _ _) (some ⟨_, 0, none⟩) 1 1 [.int .u8 5, .int .i64 0, .int .i64 (s.size : Int)] rfl rfl (fun h => by cases h) (fun ad had => by cases had; exact cells_new3 _ _ _ _ _) (fun u hu => by simp at hu; rcases hu with rfl | rfl | rfl <;> rfl) (by unfold maxLen; omega) (by omega) (by simp; omega) ?_); intro v9 w9 ho9 hg9 _; rw [Nat.zero_add, List.nil_append] at ho9; obtain ⟨a9, c9, hv9, -, -⟩ := own_slice ho9; subst hv9; have HO9 : Hid (w9.ownsRow w.heap.size 50 3 (.slice a9 1 c9) 1 [.int .u8 5, .int .i64 0, .int .i64 (s.size : Int)]) := ho9; have HB9 : Hid (Below w2.heap.size w2 w9) := (((HB5.out.alloc HB5.out.size _).alloc (by have := HB5.out.size; simp; omega) _).alloc (by have := HB5.out.size; simp; omega) _).grown hg9 (by have := HB5.out.size; simp; omega) (fun k hk => by cases hk); have X5 := (((Bx.new w5 #[.int .u8 5, .int .i64 0, .int .i64 (s.size : Int)] 50).alloc (.cells #[.int .i64 0, .int .i64 0, .int .i64 0] 26)).alloc (.cells #[.int .u8 5, .int .i64 0, .int .i64 (s.size : Int)] 50)); have X9 : Bx w9 w5.heap.size #[.int .u8 5, .int .i64 0, .int .i64 (s.size : Int)] 50 := (hg9.block w5.heap.size X5.lt (fun e => by cases e)).trans X5; have k2 : w9.cell? ⟨w5.heap.size, 2, none⟩ = some (.int .i64 (s.size : Int)) := X9.cell 2; clear X5 X9 ho9 hg9))
  clear t0 t1 y0 y1 y2 y3 y4 y5 y6 y7 y8 y9
  obtain ⟨t0, -⟩ := (HX.out w9 HB9.out).1.cells
  obtain ⟨-, -, F9, HW9'⟩ := HX.out w9 HB9.out
  have HW9 : Hid (Below w.heap.size w w9) := HW9'
  have HF9 : Hid (Bx w9 w.heap.size #[.int .i64 0, .int .i64 0, .int .i64 0] 26) := F9
  have z0 := F9.cell 0
  have z1 := F9.cell 1
  have z2 := F9.cell 2
  have f0 := F9.free 0
  have f1 := F9.free 1
  have f2 := F9.free 2
  simp at z0 z1 z2
  have hz9 : b < w9.heap.size := by have := HB9.out.size; omega
  obtain ⟨r0, r1, r2⟩ := F9.read3 (.int .i64 0) (.int .i64 0) (.int .i64 0)
  clear F9 HW9'
  rw [rounds_succ]
  go_wp2
  rw [Exit.noGoto_ret]
  refine bodyPost_ret (v := .tuple #[.slice a9 1 c9, .int .i64 (s.size : Int), .agg #[.int .i64 0, .int .i64 0, .int .i64 0]]) (by simp [results, Tryz.results13, go_sem, r0, r1, r2]) rfl ⟨a9, c9, rfl, ?_, bel_put3 HW9.out (Nat.le_refl _)⟩
  refine own_put3 HO9.out HF9.out (by decide)
end Go.Proofs.YtmnbakalcpanlaaGreatDoor
