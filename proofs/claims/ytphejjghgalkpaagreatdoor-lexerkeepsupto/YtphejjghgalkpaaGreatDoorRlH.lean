import Derived.Test.YtphejjghgalkpaaGreatDoorLmt
import Derived.Test.YtphejjghgalkpaaGreatDoorLmy
import Derived.Test.YtphejjghgalkpaaGreatDoorLyc
import Derived.Test.YtphejjghgalkpaaGreatDoorRlG
namespace Go.Proofs.YtphejjghgalkpaaGreatDoor
open Go.ChangeShapes Go.WideShapes Go.ChangeAt Go.RowKit Go.Maps Go.WideMaps
set_option linter.unusedVariables false
set_option linter.unusedSimpArgs false

theorem cut_all (s : ByteArray) : ∀ n p, s.size - p ≤ n → (∀ q ∈ (cut s p).1, ∃ k f t : Nat, q = ⟨k, f, t⟩ ∧ k < 80 ∧ f ≤ t ∧ t ≤ s.size) ∧ (cut s p).1.length ≤ s.size - p
  | n, p, hn => by
    by_cases hp : p < s.size
    · cases hc : pce s p with
      | no y z => rw [cut_no hp hc]; simp
      | ok k t =>
        obtain ⟨t1, t2, t3⟩ := pce_ok hp hc
        match n, hn with
        | 0, hn => omega
        | m + 1, hn =>
          obtain ⟨h1, h2⟩ := cut_all s m t (by omega)
          rw [cut_ok hp hc]
          refine ⟨fun q hq => ?_, by simp only [List.length_cons]; omega⟩
          rcases List.mem_cons.1 hq with rfl | hq
          · exact ⟨k, p, t, rfl, t3, by omega, t2⟩
          · exact h1 q hq
    · rw [cut_end hp]; simp
set_option maxRecDepth 1000000 in
set_option maxHeartbeats 8000000 in
theorem withAutos_nil (s : ByteArray) (w : World) :
    Calls Tryz.prog 27 #[.string s, .slice none 0 0] w fun e w' => ∃ v, e = .returned v ∧ w'.ownsRow w.heap.size 39 3 v 0 [] ∧ Below w.heap.size w w' := by
  go_enter Tryz.func27, Tryz.ntmps27
  go_wp2
  go_step3
  go_wp2
  go_step3
  go_wp2
  refine wp_loop_rounds 1 ?_
  rw [rounds_succ]
  go_wp2
  first | rw [Exit.noGoto_ret] | skip
  go_ret
  exact ⟨_, rfl, World.ownsRow_nil _ _ _ _, Below.refl _ _⟩
theorem withAutos_own (s : ByteArray) (hs : s.size ≤ 4294967280) (ts : List Tk) (hq : ∀ q ∈ ts, ∃ k f t : Nat, q = ⟨k, f, t⟩ ∧ k < 80 ∧ f ≤ t ∧ t ≤ s.size) (hl : ts.length ≤ s.size) (B : Nat) (v : Value) (w : World) (h : w.ownsRow B 39 3 v ts.length (flat ts)) :
    Calls Tryz.prog 27 #[.string s, v] w fun e w' => ∃ v', e = .returned v' ∧ w'.ownsRow w.heap.size 39 3 v' (wau s ts).length (flat (wau s ts)) ∧ Below w.heap.size w w' := by
  rcases h.2 with ⟨rfl, h0⟩ | ⟨g, c, cur, rfl, hg, hh, hc, -⟩
  · have : ts = [] := List.eq_nil_of_length_eq_zero h0
    subst this
    exact withAutos_nil s w
  · exact withAutos_some s hs g c ts hq hc hl w (Lies.own h)

/-- how Scan ends -/
def SnE (s : ByteArray) (w : World) (e : Ending) (w' : World) : Prop := Below w.heap.size w w' ∧
  match (cut s 0).2 with
  | none => ∃ v, e = .returned (.tuple #[v, .agg #[.int .i64 0, .int .i64 0, .int .i64 0]]) ∧ w'.ownsRow w.heap.size 39 3 v (wau s (cut s 0).1).length (flat (wau s (cut s 0).1))
  | some (y, z) => e = .returned (.tuple #[.slice none 0 0, .agg #[.int .i64 (y : Int), .int .i64 0, .int .i64 (z : Int)]])

set_option maxRecDepth 1000000 in
set_option maxHeartbeats 8000000 in
theorem Scan_any (s : ByteArray) (hs : s.size ≤ 4294967280) (w : World) (hS : Spl w) (hT : Lt w) (hM : ∃ m, w.cell? ⟨4, 0, none⟩ = some (.int .i64 m)) :
    Calls Tryz.prog 11 #[.string s] w fun e w' => SnE s w e w' := by
  obtain ⟨w2, e2, hw, hs2, B0⟩ := bx1 w #[.int .i64 0, .int .i64 0, .int .i64 0] 31
  have HE2 : Hid (w.alloc (.cells #[.int .i64 0, .int .i64 0, .int .i64 0] 31) = w2) := e2
  have HB2 : Hid (Below w.heap.size w w2) := hw
  have HX : Hid (∀ v, Below w2.heap.size w2 v → Bx v w.heap.size #[.int .i64 0, .int .i64 0, .int .i64 0] 31 ∧ Below w.heap.size w v) := fun v h => ⟨B0.below h B0.lt, hw.trans (h.mono hw.size)⟩
  have HN : Hid (Calls Tryz.prog 29 #[.string s] w2 fun e w' => ∃ b, w2.heap.size < b ∧ e = .returned (.pointer (some ⟨b, 0, none⟩)) ∧ Bx w' b #[.string s, .slice (some ⟨b + 1, 0, none⟩) 6 6, .map (some w2.heap.size), .int .u32 0, .int .i32 0, .int .u32 0, .pointer none] 106 ∧ Bx w' (b + 1) (sts b) 109 ∧ w'.ownsMap Tryz.prog 9 (plainElem (H := Unit) Tryz.prog 37) w2.heap.size 25 (KW 25) ∧ Below w2.heap.size w2 w') := newScanner_any s w2 (hS.below hw)
  obtain ⟨hq0, hl0⟩ := cut_all s s.size 0 (by omega)
  have HPC0 : Hid (∀ b w3, w2.heap.size < b → Bx w3 b #[.string s, .slice (some ⟨b + 1, 0, none⟩) 6 6, .map (some w2.heap.size), .int .u32 0, .int .i32 0, .int .u32 0, .pointer none] 106 → Bx w3 (b + 1) (sts b) 109 → w3.ownsMap Tryz.prog 9 (plainElem (H := Unit) Tryz.prog 37) w2.heap.size 25 (KW 25) → Below w2.heap.size w2 w3 → Calls Tryz.prog 30 #[.pointer (some ⟨b, 0, none⟩), .int .i64 0, .func (Fn.func 31) #[] #[]] w3 fun e w' => ∃ wq, Below w3.heap.size w3 wq ∧ PcE w2 wq s e w') := by
    intro b w3 hb X3 Y3 hO hb3
    obtain ⟨m, hm⟩ := hM
    have G : Gd w2 b w2.heap.size := ⟨hT.below hw, hS.below hw, ⟨m, (hw.cell (p := ⟨4, 0, none⟩) (World.block_lt_of_cell? _ _ hm)).trans hm⟩, by omega, Nat.le_refl _, by omega⟩
    have I : In w2 b w2.heap.size s w3 := ⟨hb3, ⟨0, .pointer none, X3, Y3, .inl ⟨rfl, rfl⟩⟩, hO⟩
    exact pieces_any G s hs w3 I
  clear e2 hw hs2 B0 hS hT hM
  cases hC : (cut s 0).2 with
  | some yz =>
    obtain ⟨y, z⟩ := yz
    have hcut : cut s 0 = ((cut s 0).1, some (y, z)) := by rw [← hC]
    have hy : 20 ≤ y ∧ y ≤ 24 := by
      have : ∀ n p, s.size - p ≤ n → (cut s p).2 = some (y, z) → 20 ≤ y ∧ y ≤ 24 := by
        intro n
        induction n with
        | zero => intro p hp h; rw [cut_end (by omega)] at h; cases h
        | succ n ih =>
          intro p hp h
          by_cases hlt : p < s.size
          · cases hc : pce s p with
            | no y' z' => rw [cut_no hlt hc] at h; cases h; exact pce_no hlt hc
            | ok k t => rw [cut_ok hlt hc] at h; have := pce_ok hlt hc; exact ih t (by omega) h
          · rw [cut_end hlt] at h; cases h
      exact this s.size 0 (by omega) hC
    have hy0 : ((y : Int) == 0) = false := by simp; omega
    have HPC : Hid (∀ b w3, w2.heap.size < b → Bx w3 b #[.string s, .slice (some ⟨b + 1, 0, none⟩) 6 6, .map (some w2.heap.size), .int .u32 0, .int .i32 0, .int .u32 0, .pointer none] 106 → Bx w3 (b + 1) (sts b) 109 → w3.ownsMap Tryz.prog 9 (plainElem (H := Unit) Tryz.prog 37) w2.heap.size 25 (KW 25) → Below w2.heap.size w2 w3 → Calls Tryz.prog 30 #[.pointer (some ⟨b, 0, none⟩), .int .i64 0, .func (Fn.func 31) #[] #[]] w3 fun e w' => e = .returned (.tuple #[.slice none 0 0, .int .i64 0, .agg #[.int .i64 (y : Int), .int .i64 0, .int .i64 (z : Int)]]) ∧ Below w2.heap.size w2 w') := by
      intro b w3 h1 h2 h3 h4 h5
      refine (HPC0.out b w3 h1 h2 h3 h4 h5).mono fun e w' h => ?_
      obtain ⟨wq, -, hb, hp⟩ := h
      rw [hcut] at hp
      exact ⟨hp, hb⟩
    have HEND : Hid (∀ e w', Below w.heap.size w w' → e = .returned (.tuple #[.slice none 0 0, .agg #[.int .i64 (y : Int), .int .i64 0, .int .i64 (z : Int)]]) → SnE s w e w') := fun e w' hb he => by
      unfold SnE
      rw [hcut]
      exact ⟨hb, he⟩
    clear HPC0 hC hcut hq0 hl0
    go_enter Tryz.func11, Tryz.ntmps11
    go_upto_region 1 with fail
    rw [HE2.out]
    go_wp2_with (first
      | (go_at_call 29; (with_reducible refine HN.out.mono ?_); rintro e w3 ⟨b, hbb, rfl, X3, Y3, hO3, hb3⟩; have HB3 : Hid (Below w2.heap.size w2 w3) := hb3; have HP3 : Hid (Calls Tryz.prog 30 #[.pointer (some ⟨b, 0, none⟩), .int .i64 0, .func (Fn.func 31) #[] #[]] w3 fun e w' => e = .returned (.tuple #[.slice none 0 0, .int .i64 0, .agg #[.int .i64 (y : Int), .int .i64 0, .int .i64 (z : Int)]]) ∧ Below w2.heap.size w2 w') := HPC.out b w3 hbb X3 Y3 hO3 hb3; clear hb3 X3 Y3 hO3)
      | (go_at_call 30; (with_reducible refine HP3.out.mono ?_); rintro e w4 ⟨rfl, hb4⟩; have HB4 : Hid (Below w2.heap.size w2 w4) := hb4; clear hb4))
    obtain ⟨w7, e7⟩ : ∃ w7, w4.alloc (.cells #[.int .i64 (y : Int), .int .i64 0, .int .i64 (z : Int)] 31) = w7 := ⟨_, rfl⟩
    have hb7 : Below w2.heap.size w2 w7 := by rw [← e7]; exact HB4.out.alloc HB4.out.size _
    have Y7 : Bx w7 w4.heap.size #[.int .i64 (y : Int), .int .i64 0, .int .i64 (z : Int)] 31 := by rw [← e7]; exact Bx.new _ _ _
    obtain ⟨F7, hW7⟩ := HX.out w7 hb7
    have HW7 : Hid (Below w.heap.size w w7) := hW7
    have HF7 : Hid (Bx w7 w.heap.size #[.int .i64 0, .int .i64 0, .int .i64 0] 31) := F7
    rw [e7]
    have z0 := F7.cell 0
    have z1 := F7.cell 1
    have z2 := F7.cell 2
    have f0 := F7.free 0
    have f1 := F7.free 1
    have f2 := F7.free 2
    have t0 := Y7.cell 0
    have t1 := Y7.cell 1
    have t2 := Y7.cell 2
    have l7 := F7.lt
    have m7 := Y7.lt
    simp at z0 z1 z2 t0 t1 t2
    clear F7 Y7 e7 hb7 hW7
    go_region
    all_goals
      go_wp2
      obtain ⟨r0, r1, r2⟩ := HF7.out.read3 (.int .i64 (y : Int)) (.int .i64 0) (.int .i64 (z : Int))
      refine bodyPost_ret (v := .tuple #[.slice none 0 0, .agg #[.int .i64 (y : Int), .int .i64 0, .int .i64 (z : Int)]]) (by simp [results, Tryz.results11, go_sem, r0, r1, r2]) rfl (HEND.out _ _ ((bel_put3 HW7.out (Nat.le_refl _)).drew) rfl)
  | none =>
    have hcut : cut s 0 = ((cut s 0).1, none) := by rw [← hC]
    have HPC : Hid (∀ b w3, w2.heap.size < b → Bx w3 b #[.string s, .slice (some ⟨b + 1, 0, none⟩) 6 6, .map (some w2.heap.size), .int .u32 0, .int .i32 0, .int .u32 0, .pointer none] 106 → Bx w3 (b + 1) (sts b) 109 → w3.ownsMap Tryz.prog 9 (plainElem (H := Unit) Tryz.prog 37) w2.heap.size 25 (KW 25) → Below w2.heap.size w2 w3 → Calls Tryz.prog 30 #[.pointer (some ⟨b, 0, none⟩), .int .i64 0, .func (Fn.func 31) #[] #[]] w3 fun e w' => ∃ v, e = .returned (.tuple #[v, .int .i64 (s.size : Int), .agg #[.int .i64 0, .int .i64 0, .int .i64 0]]) ∧ w'.ownsRow w2.heap.size 39 3 v (cut s 0).1.length (flat (cut s 0).1) ∧ Below w2.heap.size w2 w') := by
      intro b w3 h1 h2 h3 h4 h5
      refine (HPC0.out b w3 h1 h2 h3 h4 h5).mono fun e w' h => ?_
      obtain ⟨wq, hq, hb, hp⟩ := h
      rw [hcut] at hp
      obtain ⟨a, c, he, ho⟩ := hp
      exact ⟨_, he, own_lower ho (Nat.le_trans h5.size hq.size), hb⟩
    have HEND : Hid (∀ v e w', Below w.heap.size w w' → e = .returned (.tuple #[v, .agg #[.int .i64 0, .int .i64 0, .int .i64 0]]) → w'.ownsRow w.heap.size 39 3 v (wau s (cut s 0).1).length (flat (wau s (cut s 0).1)) → SnE s w e w') := fun v e w' hb he ho => by
      unfold SnE
      rw [hC]
      exact ⟨hb, v, he, ho⟩
    have HWA : Hid (∀ (v : Value) (u : World), u.ownsRow w2.heap.size 39 3 v (cut s 0).1.length (flat (cut s 0).1) → Calls Tryz.prog 27 #[.string s, v] u fun e w' => ∃ v', e = .returned v' ∧ w'.ownsRow u.heap.size 39 3 v' (wau s (cut s 0).1).length (flat (wau s (cut s 0).1)) ∧ Below u.heap.size u w') := fun v u hu => withAutos_own s hs _ hq0 (by omega) _ v u hu
    clear HPC0 hC hcut hq0 hl0
    generalize (cut s 0).1 = ts at *
    go_enter Tryz.func11, Tryz.ntmps11
    go_upto_region 1 with fail
    rw [HE2.out]
    go_wp2_with (first
      | (go_at_call 29; (with_reducible refine HN.out.mono ?_); rintro e w3 ⟨b, hbb, rfl, X3, Y3, hO3, hb3⟩; have HB3 : Hid (Below w2.heap.size w2 w3) := hb3; have HP3 : Hid (Calls Tryz.prog 30 #[.pointer (some ⟨b, 0, none⟩), .int .i64 0, .func (Fn.func 31) #[] #[]] w3 fun e w' => ∃ v, e = .returned (.tuple #[v, .int .i64 (s.size : Int), .agg #[.int .i64 0, .int .i64 0, .int .i64 0]]) ∧ w'.ownsRow w2.heap.size 39 3 v ts.length (flat ts) ∧ Below w2.heap.size w2 w') := HPC.out b w3 hbb X3 Y3 hO3 hb3; clear hb3 X3 Y3 hO3)
      | (go_at_call 30; (with_reducible refine HP3.out.mono ?_); rintro e w4 ⟨v4, rfl, ho4, hb4⟩; have HB4 : Hid (Below w2.heap.size w2 w4) := hb4; have HA4 : Hid (Calls Tryz.prog 27 #[.string s, v4] (w4.alloc (.cells #[.int .i64 0, .int .i64 0, .int .i64 0] 31)) fun e w' => ∃ v', e = .returned v' ∧ w'.ownsRow (w4.alloc (.cells #[.int .i64 0, .int .i64 0, .int .i64 0] 31)).heap.size 39 3 v' (wau s ts).length (flat (wau s ts)) ∧ Below (w4.alloc (.cells #[.int .i64 0, .int .i64 0, .int .i64 0] 31)).heap.size (w4.alloc (.cells #[.int .i64 0, .int .i64 0, .int .i64 0] 31)) w') := HWA.out v4 _ (ho4.alloc _); clear ho4 hb4)
      | (go_at_call 27; (with_reducible refine HA4.out.mono ?_); rintro e w6 ⟨v6, rfl, ho6, hb6⟩; have HB6 : Hid (Below w2.heap.size w2 w6) := (HB4.out.alloc HB4.out.size _).trans (hb6.mono (by have := HB4.out.size; simp; omega)); have HO6 : Hid (w6.ownsRow w.heap.size 39 3 v6 (wau s ts).length (flat (wau s ts))) := own_lower ho6 (by have := HB4.out.size; have := HB2.out.size; simp; omega); obtain ⟨F6, HW6'⟩ := HX.out w6 HB6.out; have HW6 : Hid (Below w.heap.size w w6) := HW6'; have HF6 : Hid (Bx w6 w.heap.size #[.int .i64 0, .int .i64 0, .int .i64 0] 31) := F6; have z0 : w6.cell? ⟨w.heap.size, 0, none⟩ = some (.int .i64 0) := F6.cell 0; have z1 : w6.cell? ⟨w.heap.size, 1, none⟩ = some (.int .i64 0) := F6.cell 1; have z2 : w6.cell? ⟨w.heap.size, 2, none⟩ = some (.int .i64 0) := F6.cell 2; have f0 := F6.free 0; have f1 := F6.free 1; have f2 := F6.free 2; clear ho6 hb6 F6 HW6'))
    obtain ⟨r0, r1, r2⟩ := HF6.out.read3 (.int .i64 0) (.int .i64 0) (.int .i64 0)
    refine bodyPost_ret (v := .tuple #[v6, .agg #[.int .i64 0, .int .i64 0, .int .i64 0]]) (by simp [results, Tryz.results11, go_sem, r0, r1, r2]) rfl (HEND.out v6 _ _ (bel_put3 HW6.out (Nat.le_refl _)) rfl (own_put3 HO6.out HF6.out (by decide)))
end Go.Proofs.YtphejjghgalkpaaGreatDoor

namespace Go.Proofs.YtphejjghgalkpaaGreatDoor
open Go.ChangeShapes Go.WideShapes Go.ChangeAt Go.RowKit
set_option linter.unusedVariables false
set_option linter.unusedSimpArgs false

/-- how the reference's Scan ends -/
def RsE (s : ByteArray) (w : World) (e : Ending) (w' : World) : Prop := Below w.heap.size w w' ∧
  match (cut s 0).2 with
  | none => ∃ v, e = .returned (.tuple #[v, .int .i64 0, .int .i64 0]) ∧ w'.ownsRow w.heap.size 39 3 v (wau s (cut s 0).1).length (flat (wau s (cut s 0).1))
  | some (y, z) => e = .returned (.tuple #[.slice none 0 0, .int .i64 (y : Int), .int .i64 (z : Int)])
/-- what stands in a round of the reference's Scan -/
def RsI (s : ByteArray) (q : Nat) (acc : List Tk) : Prop := ((cut s 0).2 = none → (cut s q).2 = none ∧ acc ++ wau s (cut s q).1 = wau s (cut s 0).1) ∧ ∀ x, (cut s 0).2 = some x → (cut s q).2 = some x
theorem RsI.end' {s : ByteArray} {q : Nat} {acc : List Tk} (h : RsI s q acc) (hq : ¬ q < s.size) : (cut s 0).2 = none ∧ acc = wau s (cut s 0).1 := by
  cases hc : (cut s 0).2 with
  | none =>
    have := (h.1 hc).2
    rw [cut_end hq] at this
    simp only [wau, List.append_nil] at this
    exact ⟨rfl, this⟩
  | some x =>
    have := h.2 x hc
    rw [cut_end hq] at this
    cases this
theorem RsI.fault {s : ByteArray} {q y z : Nat} {acc : List Tk} (h : RsI s q acc) (hq : q < s.size) (hc : pce s q = .no y z) : (cut s 0).2 = some (y, z) := by
  cases h0 : (cut s 0).2 with
  | none =>
    have := (h.1 h0).1
    rw [cut_no hq hc] at this
    cases this
  | some x =>
    have := h.2 x h0
    rw [cut_no hq hc] at this
    exact this.symm
theorem RsI.plain {s : ByteArray} {q k t : Nat} {acc : List Tk} (h : RsI s q acc) (hq : q < s.size) (hc : pce s q = .ok k t) (ha : ask k = false) : RsI s t (acc ++ [(⟨k, q, t⟩ : Tk)]) := by
  refine ⟨fun h0 => ?_, fun x hx => ?_⟩
  · have := h.1 h0
    rw [cut_ok hq hc] at this
    refine ⟨this.1, ?_⟩
    rw [← this.2]
    simp [wau, ha]
  · have := h.2 x hx
    rw [cut_ok hq hc] at this
    exact this
theorem RsI.asked {s : ByteArray} {q k t : Nat} {acc : List Tk} {b : Bool} (h : RsI s q acc) (hq : q < s.size) (hc : pce s q = .ok k t) (ha : ask k = true) (hb : (cut s t).2 = none → b = aft s (cut s t).1) : RsI s t (acc ++ [(⟨k, q, t⟩ : Tk)] ++ (if b then [(⟨6, t, t⟩ : Tk)] else [])) := by
  refine ⟨fun h0 => ?_, fun x hx => ?_⟩
  · have := h.1 h0
    rw [cut_ok hq hc] at this
    refine ⟨this.1, ?_⟩
    rw [← this.2, hb this.1]
    simp [wau, ha]
  · have := h.2 x hx
    rw [cut_ok hq hc] at this
    exact this

set_option maxRecDepth 1000000 in
set_option maxHeartbeats 8000000 in
theorem rScan_any (s : ByteArray) (hs : s.size ≤ 4294967280) (w : World) (hT : Lt w) :
    Calls Tryz.prog 12 #[.string s] w fun e w' => RsE s w e w' := by
  obtain ⟨i0, hi, hz0, hz1, hz2⟩ := info_parts (show (Tryz.prog.info? 39).map (fun i => (i.zero, i.size, i.bytes)) = some (some (.agg #[.int .u8 0, .int .i64 0, .int .i64 0]), 3, 24) by kernel_rfl)
  have HT : Hid (∀ v, Below w.heap.size w v → Lt v) := fun v hv => hT.below hv
  have HEY : Hid (∀ v acc e w', Below w.heap.size w w' → (cut s 0).2 = none → acc = wau s (cut s 0).1 → e = .returned (.tuple #[v, .int .i64 0, .int .i64 0]) → w'.ownsRow w.heap.size 39 3 v acc.length (flat acc) → RsE s w e w') := fun v acc e w' hb hc ha he ho => by
    unfold RsE
    rw [hc]
    subst ha
    exact ⟨hb, v, he, ho⟩
  have HEN : Hid (∀ y z e w', Below w.heap.size w w' → (cut s 0).2 = some (y, z) → e = .returned (.tuple #[.slice none 0 0, .int .i64 (y : Int), .int .i64 (z : Int)]) → RsE s w e w') := fun y z e w' hb hc he => by
    unfold RsE
    rw [hc]
    exact ⟨hb, he⟩
  clear hT
  go_enter Tryz.func12, Tryz.ntmps12
  go_wp2
  go_loopw [5, 6] (fun so st wr => ∃ (q : Nat) (acc : List Tk), q ≤ s.size ∧ st = .int .i64 (q : Int) ∧ acc.length ≤ 2 * q ∧ RsI s q acc ∧ wr.ownsRow w.heap.size 39 3 so acc.length (flat acc) ∧ Below w.heap.size w wr) (fun _ st _ => s.size - (intOf st).toNat)
  case atStart => exact ⟨0, [], Nat.zero_le _, rfl, by simp, ⟨fun h => ⟨h, rfl⟩, fun _ h => h⟩, World.ownsRow_nil _ _ _ _, Below.refl _ _⟩
  case round =>
    obtain ⟨q, acc, hqs, rfl, hal, hI, hown, hbel⟩ := hrel
    have HI : Hid (RsI s q acc) := hI
    have HO : Hid (wr.ownsRow w.heap.size 39 3 u5 acc.length (flat acc)) := hown
    have HB : Hid (Below w.heap.size w wr) := hbel
    clear hI hown hbel
    by_cases hlt : q < s.size
    · have hlt' : (q : Int) < (s.size : Int) := by omega
      have HP0 := rPiece_any s q hs hlt wr (HT.out wr HB.out)
      cases hc : pce s q with
      | no y z =>
        obtain ⟨y1, y2⟩ := pce_no_y hlt hc
        rw [hc] at HP0
        have HP : Hid (Calls Tryz.prog 32 #[.string s, .int .i64 (q : Int)] wr fun e w' => e = .returned (.tuple #[.int .i64 0, .int .i64 0, .int .i64 (y : Int), .int .i64 (z : Int)]) ∧ Below wr.heap.size wr w') := HP0
        have hy : ((y : Int) != 0) = true := by rw [bne_iff_ne]; omega
        have HFA : Hid ((cut s 0).2 = some (y, z)) := HI.out.fault hlt hc
        clear HP0 hc
        go_wp2_with (go_at_call 32; (with_reducible refine HP.out.mono ?_); rintro e w3 ⟨rfl, hb3⟩; have HB3 : Hid (Below w.heap.size w w3) := HB.out.trans (hb3.mono HB.out.size); clear hb3)
        refine bodyPost_ret (v := .tuple #[.slice none 0 0, .int .i64 (y : Int), .int .i64 (z : Int)]) (by simp [results, Tryz.results12, go_sem]) rfl (HEN.out y z _ _ HB3.out HFA.out rfl)
      | ok k t =>
        obtain ⟨t1, t2, t3⟩ := pce_ok hlt hc
        rw [hc] at HP0
        have HP : Hid (Calls Tryz.prog 32 #[.string s, .int .i64 (q : Int)] wr fun e w' => e = .returned (.tuple #[.int .i64 (k : Int), .int .i64 (t : Int), .int .i64 0, .int .i64 0]) ∧ Below wr.heap.size wr w') := HP0
        have HIP : Hid (ask k = false → RsI s t (acc ++ [(⟨k, q, t⟩ : Tk)])) := fun ha => HI.out.plain hlt hc ha
        have HIA : Hid (ask k = true → ∀ b, ((cut s t).2 = none → b = aft s (cut s t).1) → RsI s t (acc ++ [(⟨k, q, t⟩ : Tk)] ++ (if b then [(⟨6, t, t⟩ : Tk)] else []))) := fun ha b hb => HI.out.asked hlt hc ha hb
        have hk255 : (k : Int) ≤ 255 := by omega
        clear HP0 hc
        by_cases hk1 : 1 < k
        · have hk' : (k : Int) > 1 := by omega
          have HAK0 : ∀ v, Calls Tryz.prog 33 #[.int .i64 (k : Int)] v fun e w' => e = .returned (.bool (ask k)) ∧ Below v.heap.size v w' := fun v => rasks_any k t3 v
          cases hA : ask k with
          | false =>
            rw [hA] at HAK0
            have HAK : Hid (∀ v, Calls Tryz.prog 33 #[.int .i64 (k : Int)] v fun e w' => e = .returned (.bool false) ∧ Below v.heap.size v w') := HAK0
            have HI9 : Hid (RsI s t (acc ++ [(⟨k, q, t⟩ : Tk)])) := HIP.out hA
            clear HAK0 hA
            go_wp2_with (first
              | (go_at_call 32; (with_reducible refine HP.out.mono ?_); rintro e w3 ⟨rfl, hb3⟩; have HB3 : Hid (Below w.heap.size w w3) := HB.out.trans (hb3.mono HB.out.size); have HO3 : Hid (w3.ownsRow w.heap.size 39 3 u5 acc.length (flat acc)) := ownsRow_below HO.out hb3 (Nat.le_refl _); clear hb3)
              | (at_builtin; (refine wpList_append_at _ rfl (.tmp 27) (.tmp 33) 22 rfl w.heap.size 39 i0 (.agg #[.int .u8 0, .int .i64 0, .int .i64 0]) 3 24 Tryz.underlying22 hi hz0 hz1 hz2 rfl (by decide) _ acc.length (flat acc) rfl (HO3.out.alloc _) (some ⟨_, 0, none⟩) 1 1 [.int .u8 (k : Int), .int .i64 (q : Int), .int .i64 (t : Int)] rfl rfl (fun h => by cases h) (fun ad had => by cases had; exact cells_new _ _ _) (fun u hu => by simp at hu; rcases hu with rfl | rfl | rfl <;> rfl) (by unfold maxLen; omega) (by omega) (by have := HB3.out.size; simp; omega) ?_); intro v9 w9 ho9 hg9 _; have HO9 : Hid (w9.ownsRow w.heap.size 39 3 v9 (acc ++ [(⟨k, q, t⟩ : Tk)]).length (flat (acc ++ [(⟨k, q, t⟩ : Tk)]))) := (by unfold Hid; rw [flat_one, List.length_append]; exact ho9); have HB9 : Hid (Below w.heap.size w w9) := (HB3.out.alloc HB3.out.size _).grown hg9 (by have := HB3.out.size; simp; omega) (fun j hj => (HO3.out.lt j hj).1); clear ho9 hg9)
              | (go_at_call 33; (with_reducible refine (HAK.out w9).mono ?_); rintro e w4 ⟨rfl, hb4⟩; have HB4 : Hid (Below w.heap.size w w4) := HB9.out.trans (hb4.mono HB9.out.size); have HO4 : Hid (w4.ownsRow w.heap.size 39 3 v9 (acc ++ [(⟨k, q, t⟩ : Tk)]).length (flat (acc ++ [(⟨k, q, t⟩ : Tk)]))) := ownsRow_below HO9.out hb4 (Nat.le_refl _); clear hb4))
            go_roundw
            case rel => exact ⟨t, acc ++ [(⟨k, q, t⟩ : Tk)], t2, rfl, by simp; omega, HI9.out, HO4.out, HB4.out⟩
            case measure => simp [intOf]; omega
          | true =>
            rw [hA] at HAK0
            have HAK : Hid (∀ v, Calls Tryz.prog 33 #[.int .i64 (k : Int)] v fun e w' => e = .returned (.bool true) ∧ Below v.heap.size v w') := HAK0
            have HAT : Hid (ask k = true) := hA
            have HFD : Hid (∀ v, Below w.heap.size w v → Calls Tryz.prog 34 #[.string s, .int .i64 (t : Int)] v fun e w' => FdE s t e ∧ Below v.heap.size v w') := fun v hv => rfeed_any s t hs t2 v (HT.out v hv)
            clear HAK0 hA
            go_wp2_with (first
              | (go_at_call 32; (with_reducible refine HP.out.mono ?_); rintro e w3 ⟨rfl, hb3⟩; have HB3 : Hid (Below w.heap.size w w3) := HB.out.trans (hb3.mono HB.out.size); have HO3 : Hid (w3.ownsRow w.heap.size 39 3 u5 acc.length (flat acc)) := ownsRow_below HO.out hb3 (Nat.le_refl _); clear hb3)
              | (at_builtin; (refine wpList_append_at _ rfl (.tmp 27) (.tmp 33) 22 rfl w.heap.size 39 i0 (.agg #[.int .u8 0, .int .i64 0, .int .i64 0]) 3 24 Tryz.underlying22 hi hz0 hz1 hz2 rfl (by decide) _ acc.length (flat acc) rfl (HO3.out.alloc _) (some ⟨_, 0, none⟩) 1 1 [.int .u8 (k : Int), .int .i64 (q : Int), .int .i64 (t : Int)] rfl rfl (fun h => by cases h) (fun ad had => by cases had; exact cells_new _ _ _) (fun u hu => by simp at hu; rcases hu with rfl | rfl | rfl <;> rfl) (by unfold maxLen; omega) (by omega) (by have := HB3.out.size; simp; omega) ?_); intro v9 w9 ho9 hg9 _; have HO9 : Hid (w9.ownsRow w.heap.size 39 3 v9 (acc ++ [(⟨k, q, t⟩ : Tk)]).length (flat (acc ++ [(⟨k, q, t⟩ : Tk)]))) := (by unfold Hid; rw [flat_one, List.length_append]; exact ho9); have HB9 : Hid (Below w.heap.size w w9) := (HB3.out.alloc HB3.out.size _).grown hg9 (by have := HB3.out.size; simp; omega) (fun j hj => (HO3.out.lt j hj).1); clear ho9 hg9)
              | (go_at_call 33; (with_reducible refine (HAK.out w9).mono ?_); rintro e w4 ⟨rfl, hb4⟩; have HB4 : Hid (Below w.heap.size w w4) := HB9.out.trans (hb4.mono HB9.out.size); have HO4 : Hid (w4.ownsRow w.heap.size 39 3 v9 (acc ++ [(⟨k, q, t⟩ : Tk)]).length (flat (acc ++ [(⟨k, q, t⟩ : Tk)]))) := ownsRow_below HO9.out hb4 (Nat.le_refl _); clear hb4)
              | (go_at_call 34; (with_reducible refine (HFD.out w4 HB4.out).mono ?_); rintro e w5 ⟨⟨b5, rfl, haf5⟩, hb5⟩; have HB5 : Hid (Below w.heap.size w w5) := HB4.out.trans (hb5.mono HB4.out.size); have HO5 : Hid (w5.ownsRow w.heap.size 39 3 v9 (acc ++ [(⟨k, q, t⟩ : Tk)]).length (flat (acc ++ [(⟨k, q, t⟩ : Tk)]))) := ownsRow_below HO4.out hb5 (Nat.le_refl _); have HI5 : Hid (RsI s t (acc ++ [(⟨k, q, t⟩ : Tk)] ++ (if b5 then [(⟨6, t, t⟩ : Tk)] else []))) := HIA.out HAT.out b5 haf5; clear hb5 haf5; cases b5)
              | (at_builtin; (refine wpList_append_at _ rfl (.tmp 46) (.tmp 50) 22 rfl w.heap.size 39 i0 (.agg #[.int .u8 0, .int .i64 0, .int .i64 0]) 3 24 Tryz.underlying22 hi hz0 hz1 hz2 rfl (by decide) _ (acc ++ [(⟨k, q, t⟩ : Tk)]).length (flat (acc ++ [(⟨k, q, t⟩ : Tk)])) rfl (HO5.out.alloc _) (some ⟨_, 0, none⟩) 1 1 [.int .u8 6, .int .i64 (t : Int), .int .i64 (t : Int)] rfl rfl (fun h => by cases h) (fun ad had => by cases had; exact cells_new _ _ _) (fun u hu => by simp at hu; rcases hu with rfl | rfl | rfl <;> rfl) (by unfold maxLen; simp; omega) (by simp; omega) (by have := HB5.out.size; simp; omega) ?_); intro v8 w8 ho8 hg8 _; have HO8 : Hid (w8.ownsRow w.heap.size 39 3 v8 ((acc ++ [(⟨k, q, t⟩ : Tk)]) ++ [(⟨6, t, t⟩ : Tk)]).length (flat ((acc ++ [(⟨k, q, t⟩ : Tk)]) ++ [(⟨6, t, t⟩ : Tk)]))) := (by unfold Hid; rw [flat_one, List.length_append]; exact ho8); have HB8 : Hid (Below w.heap.size w w8) := (HB5.out.alloc HB5.out.size _).grown hg8 (by have := HB5.out.size; simp; omega) (fun j hj => (HO5.out.lt j hj).1); clear ho8 hg8))
            · go_roundw
              case rel => exact ⟨t, acc ++ [(⟨k, q, t⟩ : Tk)], t2, rfl, by simp; omega, by simpa using HI5.out, HO5.out, HB5.out⟩
              case measure => simp [intOf]; omega
            · go_roundw
              case rel => exact ⟨t, acc ++ [(⟨k, q, t⟩ : Tk)] ++ [(⟨6, t, t⟩ : Tk)], t2, rfl, by simp; omega, by simpa using HI5.out, HO8.out, HB8.out⟩
              case measure => simp [intOf]; omega
        · have hk' : ¬ (k : Int) > 1 := by omega
          have HI9 : Hid (RsI s t (acc ++ [(⟨k, q, t⟩ : Tk)])) := HIP.out (by
            have : ∀ k, k < 2 → ask k = false := by decide
            exact this k (by omega))
          go_wp2_with (first
            | (go_at_call 32; (with_reducible refine HP.out.mono ?_); rintro e w3 ⟨rfl, hb3⟩; have HB3 : Hid (Below w.heap.size w w3) := HB.out.trans (hb3.mono HB.out.size); have HO3 : Hid (w3.ownsRow w.heap.size 39 3 u5 acc.length (flat acc)) := ownsRow_below HO.out hb3 (Nat.le_refl _); clear hb3)
            | (at_builtin; (refine wpList_append_at _ rfl (.tmp 27) (.tmp 33) 22 rfl w.heap.size 39 i0 (.agg #[.int .u8 0, .int .i64 0, .int .i64 0]) 3 24 Tryz.underlying22 hi hz0 hz1 hz2 rfl (by decide) _ acc.length (flat acc) rfl (HO3.out.alloc _) (some ⟨_, 0, none⟩) 1 1 [.int .u8 (k : Int), .int .i64 (q : Int), .int .i64 (t : Int)] rfl rfl (fun h => by cases h) (fun ad had => by cases had; exact cells_new _ _ _) (fun u hu => by simp at hu; rcases hu with rfl | rfl | rfl <;> rfl) (by unfold maxLen; omega) (by omega) (by have := HB3.out.size; simp; omega) ?_); intro v9 w9 ho9 hg9 _; have HO9 : Hid (w9.ownsRow w.heap.size 39 3 v9 (acc ++ [(⟨k, q, t⟩ : Tk)]).length (flat (acc ++ [(⟨k, q, t⟩ : Tk)]))) := (by unfold Hid; rw [flat_one, List.length_append]; exact ho9); have HB9 : Hid (Below w.heap.size w w9) := (HB3.out.alloc HB3.out.size _).grown hg9 (by have := HB3.out.size; simp; omega) (fun j hj => (HO3.out.lt j hj).1); clear ho9 hg9))
          go_roundw
          case rel => exact ⟨t, acc ++ [(⟨k, q, t⟩ : Tk)], t2, rfl, by simp; omega, HI9.out, HO9.out, HB9.out⟩
          case measure => simp [intOf]; omega
    · have hge : ¬ (q : Int) < (s.size : Int) := by omega
      obtain ⟨e1, e2⟩ := HI.out.end' hlt
      have HE1 : Hid ((cut s 0).2 = none) := e1
      have HE2 : Hid (acc = wau s (cut s 0).1) := e2
      clear e1 e2
      go_wp2
      refine bodyPost_ret (v := .tuple #[u5, .int .i64 0, .int .i64 0]) (by simp [results, Tryz.results12, go_sem]) rfl (HEY.out u5 acc _ _ HB.out HE1.out HE2.out rfl HO.out)
end Go.Proofs.YtphejjghgalkpaaGreatDoor
