import Derived.Test.YtmnbakalcpanlaaGreatDoorLmt
import Derived.Test.YtmnbakalcpanlaaGreatDoorLmy
import Derived.Test.YtmnbakalcpanlaaGreatDoorLyc
namespace Go.Proofs.YtmnbakalcpanlaaGreatDoor
open Go.ChangeShapes Go.WideShapes Go.ChangeAt Go.RowKit Go.Maps Go.WideMaps
set_option linter.unusedVariables false
set_option linter.unusedSimpArgs false

theorem cut_all (s : ByteArray) : ∀ n p, s.size - p ≤ n → (∀ q ∈ (cut s p).1, ∃ k f t : Nat, q = ⟨k, f, t⟩ ∧ k < 80 ∧ f ≤ t ∧ t ≤ s.size) ∧ (cut s p).1.length ≤ s.size - p
  | n, p, hn => by
    by_cases hp : p < s.size
    · cases hc : pce s p with
      | no y z => rw [cut_no hp hc]; simp
      | ok k t =>
        obtain ⟨t1, t2, t3⟩ := pce_ok hp hc
        match n, hn with
        | 0, hn => omega
        | m + 1, hn =>
          obtain ⟨h1, h2⟩ := cut_all s m t (by omega)
          rw [cut_ok hp hc]
          refine ⟨fun q hq => ?_, by simp only [List.length_cons]; omega⟩
          rcases List.mem_cons.1 hq with rfl | hq
          · exact ⟨k, p, t, rfl, t3, by omega, t2⟩
          · exact h1 q hq
    · rw [cut_end hp]; simp
set_option maxRecDepth 1000000 in
set_option maxHeartbeats 8000000 in
theorem withAutos_nil (s : ByteArray) (w : World) :
    Calls Tryz.prog 15 #[.string s, .slice none 0 0] w fun e w' => ∃ v, e = .returned v ∧ w'.ownsRow w.heap.size 50 3 v 0 [] ∧ Below w.heap.size w w' := by
  go_enter Tryz.func15, Tryz.ntmps15
  go_wp2
  go_step3
  go_wp2
  go_step3
  go_wp2
  refine wp_loop_rounds 1 ?_
  rw [rounds_succ]
  go_wp2
  first | rw [Exit.noGoto_ret] | skip
  go_ret
  exact ⟨_, rfl, World.ownsRow_nil _ _ _ _, Below.refl _ _⟩
theorem withAutos_own (s : ByteArray) (hs : s.size ≤ 4294967280) (ts : List Tk) (hq : ∀ q ∈ ts, ∃ k f t : Nat, q = ⟨k, f, t⟩ ∧ k < 80 ∧ f ≤ t ∧ t ≤ s.size) (hl : ts.length ≤ s.size) (B : Nat) (v : Value) (w : World) (h : w.ownsRow B 50 3 v ts.length (flat ts)) :
    Calls Tryz.prog 15 #[.string s, v] w fun e w' => ∃ v', e = .returned v' ∧ w'.ownsRow w.heap.size 50 3 v' (wau s ts).length (flat (wau s ts)) ∧ Below w.heap.size w w' := by
  rcases h.2 with ⟨rfl, h0⟩ | ⟨g, c, cur, rfl, hg, hh, hc, -⟩
  · have : ts = [] := List.eq_nil_of_length_eq_zero h0
    subst this
    exact withAutos_nil s w
  · exact withAutos_some s hs g c ts hq hc hl w (Lies.own h)

/-- how Scan ends -/
def SnE (s : ByteArray) (w : World) (e : Ending) (w' : World) : Prop := Below w.heap.size w w' ∧
  match (cut s 0).2 with
  | none => ∃ v, e = .returned (.tuple #[v, .agg #[.int .i64 0, .int .i64 0, .int .i64 0]]) ∧ w'.ownsRow w.heap.size 50 3 v (wau s (cut s 0).1).length (flat (wau s (cut s 0).1))
  | some (y, z) => e = .returned (.tuple #[.slice none 0 0, .agg #[.int .i64 (y : Int), .int .i64 0, .int .i64 (z : Int)]])

set_option maxRecDepth 1000000 in
set_option maxHeartbeats 8000000 in
theorem Scan_any (s : ByteArray) (hs : s.size ≤ 4294967280) (w : World) (hS : Spl w) (hT : Lt w) (hM : ∃ m, w.cell? ⟨1, 0, none⟩ = some (.int .i64 m)) :
    Calls Tryz.prog 4 #[.string s] w fun e w' => SnE s w e w' := by
  obtain ⟨w2, e2, hw, hs2, B0⟩ := bx1 w #[.int .i64 0, .int .i64 0, .int .i64 0] 26
  have HE2 : Hid (w.alloc (.cells #[.int .i64 0, .int .i64 0, .int .i64 0] 26) = w2) := e2
  have HB2 : Hid (Below w.heap.size w w2) := hw
  have HX : Hid (∀ v, Below w2.heap.size w2 v → Bx v w.heap.size #[.int .i64 0, .int .i64 0, .int .i64 0] 26 ∧ Below w.heap.size w v) := fun v h => ⟨B0.below h B0.lt, hw.trans (h.mono hw.size)⟩
  have HN : Hid (Calls Tryz.prog 12 #[.string s] w2 fun e w' => ∃ b, w2.heap.size < b ∧ e = .returned (.pointer (some ⟨b, 0, none⟩)) ∧ Bx w' b #[.string s, .slice (some ⟨b + 1, 0, none⟩) 6 6, .map (some w2.heap.size), .int .u32 0, .int .i32 0, .int .u32 0, .pointer none] 77 ∧ Bx w' (b + 1) (sts b) 80 ∧ w'.ownsMap Tryz.prog 9 (plainElem (H := Unit) Tryz.prog 48) w2.heap.size 25 (KW 25) ∧ Below w2.heap.size w2 w') := newScanner_any s w2 (hS.below hw)
  obtain ⟨hq0, hl0⟩ := cut_all s s.size 0 (by omega)
  have HPC0 : Hid (∀ b w3, w2.heap.size < b → Bx w3 b #[.string s, .slice (some ⟨b + 1, 0, none⟩) 6 6, .map (some w2.heap.size), .int .u32 0, .int .i32 0, .int .u32 0, .pointer none] 77 → Bx w3 (b + 1) (sts b) 80 → w3.ownsMap Tryz.prog 9 (plainElem (H := Unit) Tryz.prog 48) w2.heap.size 25 (KW 25) → Below w2.heap.size w2 w3 → Calls Tryz.prog 13 #[.pointer (some ⟨b, 0, none⟩), .int .i64 0, .func (Fn.func 14) #[] #[]] w3 fun e w' => ∃ wq, Below w3.heap.size w3 wq ∧ PcE w2 wq s e w') := by
    intro b w3 hb X3 Y3 hO hb3
    obtain ⟨m, hm⟩ := hM
    have G : Gd w2 b w2.heap.size := ⟨hT.below hw, hS.below hw, ⟨m, (hw.cell (p := ⟨1, 0, none⟩) (World.block_lt_of_cell? _ _ hm)).trans hm⟩, by omega, Nat.le_refl _, by omega⟩
    have I : In w2 b w2.heap.size s w3 := ⟨hb3, ⟨0, .pointer none, X3, Y3, .inl ⟨rfl, rfl⟩⟩, hO⟩
    exact pieces_any G s hs w3 I
  clear e2 hw hs2 B0 hS hT hM
  cases hC : (cut s 0).2 with
  | some yz =>
    obtain ⟨y, z⟩ := yz
    have hcut : cut s 0 = ((cut s 0).1, some (y, z)) := by rw [← hC]
    have hy : 20 ≤ y ∧ y ≤ 24 := by
      have : ∀ n p, s.size - p ≤ n → (cut s p).2 = some (y, z) → 20 ≤ y ∧ y ≤ 24 := by
        intro n
        induction n with
        | zero => intro p hp h; rw [cut_end (by omega)] at h; cases h
        | succ n ih =>
          intro p hp h
          by_cases hlt : p < s.size
          · cases hc : pce s p with
            | no y' z' => rw [cut_no hlt hc] at h; cases h; exact pce_no hlt hc
            | ok k t => rw [cut_ok hlt hc] at h; have := pce_ok hlt hc; exact ih t (by omega) h
          · rw [cut_end hlt] at h; cases h
      exact this s.size 0 (by omega) hC
    have hy0 : ((y : Int) == 0) = false := by simp; omega
    have HPC : Hid (∀ b w3, w2.heap.size < b → Bx w3 b #[.string s, .slice (some ⟨b + 1, 0, none⟩) 6 6, .map (some w2.heap.size), .int .u32 0, .int .i32 0, .int .u32 0, .pointer none] 77 → Bx w3 (b + 1) (sts b) 80 → w3.ownsMap Tryz.prog 9 (plainElem (H := Unit) Tryz.prog 48) w2.heap.size 25 (KW 25) → Below w2.heap.size w2 w3 → Calls Tryz.prog 13 #[.pointer (some ⟨b, 0, none⟩), .int .i64 0, .func (Fn.func 14) #[] #[]] w3 fun e w' => e = .returned (.tuple #[.slice none 0 0, .int .i64 0, .agg #[.int .i64 (y : Int), .int .i64 0, .int .i64 (z : Int)]]) ∧ Below w2.heap.size w2 w') := by
      intro b w3 h1 h2 h3 h4 h5
      refine (HPC0.out b w3 h1 h2 h3 h4 h5).mono fun e w' h => ?_
      obtain ⟨wq, -, hb, hp⟩ := h
      rw [hcut] at hp
      exact ⟨hp, hb⟩
    have HEND : Hid (∀ e w', Below w.heap.size w w' → e = .returned (.tuple #[.slice none 0 0, .agg #[.int .i64 (y : Int), .int .i64 0, .int .i64 (z : Int)]]) → SnE s w e w') := fun e w' hb he => by
      unfold SnE
      rw [hcut]
      exact ⟨hb, he⟩
    clear HPC0 hC hcut hq0 hl0
    go_enter Tryz.func4, Tryz.ntmps4
    go_upto_region 1 with fail
    rw [HE2.out]
    go_wp2_with (first
      | (go_at_call 12; (with_reducible refine HN.out.mono ?_); rintro e w3 ⟨b, hbb, rfl, X3, Y3, hO3, hb3⟩; have HB3 : Hid (Below w2.heap.size w2 w3) := hb3; have HP3 : Hid (Calls Tryz.prog 13 #[.pointer (some ⟨b, 0, none⟩), .int .i64 0, .func (Fn.func 14) #[] #[]] w3 fun e w' => e = .returned (.tuple #[.slice none 0 0, .int .i64 0, .agg #[.int .i64 (y : Int), .int .i64 0, .int .i64 (z : Int)]]) ∧ Below w2.heap.size w2 w') := HPC.out b w3 hbb X3 Y3 hO3 hb3; clear hb3 X3 Y3 hO3)
      | (go_at_call 13; (with_reducible refine HP3.out.mono ?_); rintro e w4 ⟨rfl, hb4⟩; have HB4 : Hid (Below w2.heap.size w2 w4) := hb4; clear hb4))
    obtain ⟨w7, e7⟩ : ∃ w7, w4.alloc (.cells #[.int .i64 (y : Int), .int .i64 0, .int .i64 (z : Int)] 26) = w7 := ⟨_, rfl⟩
    have hb7 : Below w2.heap.size w2 w7 := by rw [← e7]; exact HB4.out.alloc HB4.out.size _
    have Y7 : Bx w7 w4.heap.size #[.int .i64 (y : Int), .int .i64 0, .int .i64 (z : Int)] 26 := by rw [← e7]; exact Bx.new _ _ _
    obtain ⟨F7, hW7⟩ := HX.out w7 hb7
    have HW7 : Hid (Below w.heap.size w w7) := hW7
    have HF7 : Hid (Bx w7 w.heap.size #[.int .i64 0, .int .i64 0, .int .i64 0] 26) := F7
    rw [e7]
    have z0 := F7.cell 0
    have z1 := F7.cell 1
    have z2 := F7.cell 2
    have f0 := F7.free 0
    have f1 := F7.free 1
    have f2 := F7.free 2
    have t0 := Y7.cell 0
    have t1 := Y7.cell 1
    have t2 := Y7.cell 2
    have l7 := F7.lt
    have m7 := Y7.lt
    simp at z0 z1 z2 t0 t1 t2
    clear F7 Y7 e7 hb7 hW7
    go_region
    all_goals
      go_wp2
      obtain ⟨r0, r1, r2⟩ := HF7.out.read3 (.int .i64 (y : Int)) (.int .i64 0) (.int .i64 (z : Int))
      refine bodyPost_ret (v := .tuple #[.slice none 0 0, .agg #[.int .i64 (y : Int), .int .i64 0, .int .i64 (z : Int)]]) (by simp [results, Tryz.results4, go_sem, r0, r1, r2]) rfl (HEND.out _ _ ((bel_put3 HW7.out (Nat.le_refl _)).drew) rfl)
  | none =>
    have hcut : cut s 0 = ((cut s 0).1, none) := by rw [← hC]
    have HPC : Hid (∀ b w3, w2.heap.size < b → Bx w3 b #[.string s, .slice (some ⟨b + 1, 0, none⟩) 6 6, .map (some w2.heap.size), .int .u32 0, .int .i32 0, .int .u32 0, .pointer none] 77 → Bx w3 (b + 1) (sts b) 80 → w3.ownsMap Tryz.prog 9 (plainElem (H := Unit) Tryz.prog 48) w2.heap.size 25 (KW 25) → Below w2.heap.size w2 w3 → Calls Tryz.prog 13 #[.pointer (some ⟨b, 0, none⟩), .int .i64 0, .func (Fn.func 14) #[] #[]] w3 fun e w' => ∃ v, e = .returned (.tuple #[v, .int .i64 (s.size : Int), .agg #[.int .i64 0, .int .i64 0, .int .i64 0]]) ∧ w'.ownsRow w2.heap.size 50 3 v (cut s 0).1.length (flat (cut s 0).1) ∧ Below w2.heap.size w2 w') := by
      intro b w3 h1 h2 h3 h4 h5
      refine (HPC0.out b w3 h1 h2 h3 h4 h5).mono fun e w' h => ?_
      obtain ⟨wq, hq, hb, hp⟩ := h
      rw [hcut] at hp
      obtain ⟨a, c, he, ho⟩ := hp
      exact ⟨_, he, own_lower ho (Nat.le_trans h5.size hq.size), hb⟩
    have HEND : Hid (∀ v e w', Below w.heap.size w w' → e = .returned (.tuple #[v, .agg #[.int .i64 0, .int .i64 0, .int .i64 0]]) → w'.ownsRow w.heap.size 50 3 v (wau s (cut s 0).1).length (flat (wau s (cut s 0).1)) → SnE s w e w') := fun v e w' hb he ho => by
      unfold SnE
      rw [hC]
      exact ⟨hb, v, he, ho⟩
    have HWA : Hid (∀ (v : Value) (u : World), u.ownsRow w2.heap.size 50 3 v (cut s 0).1.length (flat (cut s 0).1) → Calls Tryz.prog 15 #[.string s, v] u fun e w' => ∃ v', e = .returned v' ∧ w'.ownsRow u.heap.size 50 3 v' (wau s (cut s 0).1).length (flat (wau s (cut s 0).1)) ∧ Below u.heap.size u w') := fun v u hu => withAutos_own s hs _ hq0 (by omega) _ v u hu
    clear HPC0 hC hcut hq0 hl0
    generalize (cut s 0).1 = ts at *
    go_enter Tryz.func4, Tryz.ntmps4
    go_upto_region 1 with fail
    rw [HE2.out]
    go_wp2_with (first
      | (go_at_call 12; (with_reducible refine HN.out.mono ?_); rintro e w3 ⟨b, hbb, rfl, X3, Y3, hO3, hb3⟩; have HB3 : Hid (Below w2.heap.size w2 w3) := hb3; have HP3 : Hid (Calls Tryz.prog 13 #[.pointer (some ⟨b, 0, none⟩), .int .i64 0, .func (Fn.func 14) #[] #[]] w3 fun e w' => ∃ v, e = .returned (.tuple #[v, .int .i64 (s.size : Int), .agg #[.int .i64 0, .int .i64 0, .int .i64 0]]) ∧ w'.ownsRow w2.heap.size 50 3 v ts.length (flat ts) ∧ Below w2.heap.size w2 w') := HPC.out b w3 hbb X3 Y3 hO3 hb3; clear hb3 X3 Y3 hO3)
      | (go_at_call 13; (with_reducible refine HP3.out.mono ?_); rintro e w4 ⟨v4, rfl, ho4, hb4⟩; have HB4 : Hid (Below w2.heap.size w2 w4) := hb4; have HA4 : Hid (Calls Tryz.prog 15 #[.string s, v4] (w4.alloc (.cells #[.int .i64 0, .int .i64 0, .int .i64 0] 26)) fun e w' => ∃ v', e = .returned v' ∧ w'.ownsRow (w4.alloc (.cells #[.int .i64 0, .int .i64 0, .int .i64 0] 26)).heap.size 50 3 v' (wau s ts).length (flat (wau s ts)) ∧ Below (w4.alloc (.cells #[.int .i64 0, .int .i64 0, .int .i64 0] 26)).heap.size (w4.alloc (.cells #[.int .i64 0, .int .i64 0, .int .i64 0] 26)) w') := HWA.out v4 _ (ho4.alloc _); clear ho4 hb4)
      | (go_at_call 15; (with_reducible refine HA4.out.mono ?_); rintro e w6 ⟨v6, rfl, ho6, hb6⟩; have HB6 : Hid (Below w2.heap.size w2 w6) := (HB4.out.alloc HB4.out.size _).trans (hb6.mono (by have := HB4.out.size; simp; omega)); have HO6 : Hid (w6.ownsRow w.heap.size 50 3 v6 (wau s ts).length (flat (wau s ts))) := own_lower ho6 (by have := HB4.out.size; have := HB2.out.size; simp; omega); obtain ⟨F6, HW6'⟩ := HX.out w6 HB6.out; have HW6 : Hid (Below w.heap.size w w6) := HW6'; have HF6 : Hid (Bx w6 w.heap.size #[.int .i64 0, .int .i64 0, .int .i64 0] 26) := F6; have z0 : w6.cell? ⟨w.heap.size, 0, none⟩ = some (.int .i64 0) := F6.cell 0; have z1 : w6.cell? ⟨w.heap.size, 1, none⟩ = some (.int .i64 0) := F6.cell 1; have z2 : w6.cell? ⟨w.heap.size, 2, none⟩ = some (.int .i64 0) := F6.cell 2; have f0 := F6.free 0; have f1 := F6.free 1; have f2 := F6.free 2; clear ho6 hb6 F6 HW6'))
    obtain ⟨r0, r1, r2⟩ := HF6.out.read3 (.int .i64 0) (.int .i64 0) (.int .i64 0)
    refine bodyPost_ret (v := .tuple #[v6, .agg #[.int .i64 0, .int .i64 0, .int .i64 0]]) (by simp [results, Tryz.results4, go_sem, r0, r1, r2]) rfl (HEND.out v6 _ _ (bel_put3 HW6.out (Nat.le_refl _)) rfl (own_put3 HO6.out HF6.out (by decide)))
end Go.Proofs.YtmnbakalcpanlaaGreatDoor
