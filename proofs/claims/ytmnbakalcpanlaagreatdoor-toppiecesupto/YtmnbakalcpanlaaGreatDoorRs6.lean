import Derived.Test.YtmnbakalcpanlaaGreatDoorRs5
import Derived.Test.YtmnbakalcpanlaaGreatDoorTm8
import Derived.Test.YtmnbakalcpanlaaGreatDoorSnA
import Derived.Deep.RegionHeld3
namespace Go.Proofs.YtmnbakalcpanlaaGreatDoor
open Go.ChangeShapes Go.WideShapes Go.ChangeAt Go.RowKit Go.Maps Go.WideMaps
set_option linter.unusedVariables false
set_option linter.unusedSimpArgs false

theorem sdB_true {s : ByteArray} {xs : List Tk} (h : sdB s xs = true) : (cut s 0).2 = none ∧ xs = wau s (cut s 0).1 := by
  unfold sdB at h
  cases hC : (cut s 0).2 with
  | none => rw [hC] at h; exact ⟨rfl, ((lsE_eq _ _).1 h).symm⟩
  | some y => rw [hC] at h; simp at h
/-- how Rescan ends where the list is the text's own and the edit lies within it -/
def RcE (s : ByteArray) (w : World) (e : Ending) (w' : World) : Prop := Below w.heap.size w w' ∧
  match (cut s 0).2 with
  | none => ∃ v, e = .returned (.tuple #[.string s, v, .agg #[.int .i64 0, .int .i64 0, .int .i64 0]]) ∧ w'.ownsRow w.heap.size 50 3 v (wau s (cut s 0).1).length (flat (wau s (cut s 0).1))
  | some (y, z) => e = .returned (.tuple #[.string s, .slice none 0 0, .agg #[.int .i64 (y : Int), .int .i64 0, .int .i64 (z : Int)]])
set_option maxRecDepth 1000000 in
set_option maxHeartbeats 8000000 in
theorem rescan_arg (s : ByteArray) (a : Option Addr) (c : Nat) (xs : List Tk) (ef et : Int) (n : ByteArray) (hs : s.size ≤ 4294967280) (hx : xs.length ≤ 281474976710656) (hb : sdB s xs = false) (w : World) (hl : LiesA w a xs) (hS : Spl w) (hT : Lt w) (hM : MaxL w) :
    Calls Tryz.prog 9 #[.string s, .slice a xs.length c, .agg #[.int .i64 ef, .int .i64 et, .string n]] w fun e w' => e = .returned (.tuple #[.string .empty, .slice none 0 0, .agg #[.int .i64 1, .int .i64 0, .int .i64 0]]) ∧ Below w.heap.size w w' := by
  obtain ⟨w2, e2, hb2, hs2, B1, B2⟩ := bx2 w #[.int .i64 ef, .int .i64 et, .string n] #[.int .i64 0, .int .i64 0, .int .i64 0] 38 26
  have HB2 : Hid (Below w.heap.size w w2) := hb2
  have HF2 : Hid (Bx w2 (w.heap.size + 1) #[.int .i64 0, .int .i64 0, .int .i64 0] 26) := B2
  have HSD : Hid (Calls Tryz.prog 21 #[.string s, .slice a xs.length c] w2 fun e w' => e = .returned (.bool false) ∧ Below w2.heap.size w2 w') := by
    have := Sound_any s a c xs hs hx w2 (hl.below hb2) (hS.below hb2) (hT.below hb2) (hM.below hb2)
    rw [hb] at this
    exact this
  clear hb2 hs2 B1 B2 hl hS hT hM hb
  go_enter Tryz.func9, Tryz.ntmps9
  go_wp2_with (first
    | (go_at_call 21; (with_reducible refine HSD.out.mono ?_); rintro e w3 ⟨rfl, hb3⟩; have HB3 : Hid (Below w2.heap.size w2 w3) := hb3; clear hb3)
    | (go_at_call 22; (with_reducible refine (faultAt_any _ _ _).mono ?_); rintro e w4 ⟨rfl, hb4⟩; have HB4 : Hid (Below w2.heap.size w2 w4) := HB3.out.trans (hb4.mono HB3.out.size); have F4 : Bx w4 (w.heap.size + 1) #[.int .i64 0, .int .i64 0, .int .i64 0] 26 := HF2.out.below HB4.out HF2.out.lt; have HF4 : Hid (Bx w4 (w.heap.size + 1) #[.int .i64 0, .int .i64 0, .int .i64 0] 26) := F4; have z0 : w4.cell? ⟨w.heap.size + 1, 0, none⟩ = some (.int .i64 0) := F4.cell 0; have z1 : w4.cell? ⟨w.heap.size + 1, 1, none⟩ = some (.int .i64 0) := F4.cell 1; have z2 : w4.cell? ⟨w.heap.size + 1, 2, none⟩ = some (.int .i64 0) := F4.cell 2; have f0 := F4.free 0; have f1 := F4.free 1; have f2 := F4.free 2; have l4 := F4.lt; clear hb4 F4))
  obtain ⟨r0, r1, r2⟩ := HF4.out.read3 (.int .i64 1) (.int .i64 0) (.int .i64 0)
  refine bodyPost_ret (v := .tuple #[.string .empty, .slice none 0 0, .agg #[.int .i64 1, .int .i64 0, .int .i64 0]]) (by simp [results, Tryz.results9, go_sem, r0, r1, r2]; rfl) rfl ⟨rfl, bel_put3 (HB2.out.trans (HB4.out.mono HB2.out.size)) (by omega)⟩
set_option maxRecDepth 1000000 in
set_option maxHeartbeats 8000000 in
theorem rescan_span (s : ByteArray) (a : Option Addr) (c : Nat) (xs : List Tk) (ef et : Int) (n : ByteArray) (hs : s.size ≤ 4294967280) (hx : xs.length ≤ 281474976710656) (hb : sdB s xs = true) (hE : ef < 0 ∨ et < ef ∨ (s.size : Int) < et) (w : World) (hl : LiesA w a xs) (hS : Spl w) (hT : Lt w) (hM : MaxL w) :
    Calls Tryz.prog 9 #[.string s, .slice a xs.length c, .agg #[.int .i64 ef, .int .i64 et, .string n]] w fun e w' => e = .returned (.tuple #[.string .empty, .slice none 0 0, .agg #[.int .i64 10, .int .i64 0, .int .i64 0]]) ∧ Below w.heap.size w w' := by
  obtain ⟨w2, e2, hb2, hs2, B1, B2⟩ := bx2 w #[.int .i64 ef, .int .i64 et, .string n] #[.int .i64 0, .int .i64 0, .int .i64 0] 38 26
  have HB2 : Hid (Below w.heap.size w w2) := hb2
  have HE2 : Hid (Bx w2 w.heap.size #[.int .i64 ef, .int .i64 et, .string n] 38) := B1
  have HF2 : Hid (Bx w2 (w.heap.size + 1) #[.int .i64 0, .int .i64 0, .int .i64 0] 26) := B2
  have HSD : Hid (Calls Tryz.prog 21 #[.string s, .slice a xs.length c] w2 fun e w' => e = .returned (.bool true) ∧ Below w2.heap.size w2 w') := by
    have := Sound_any s a c xs hs hx w2 (hl.below hb2) (hS.below hb2) (hT.below hb2) (hM.below hb2)
    rw [hb] at this
    exact this
  clear hb2 hs2 B1 B2 hl hS hT hM hb
  have hEE : ef < 0 ∨ (¬ ef < 0 ∧ et < ef) ∨ (¬ ef < 0 ∧ ¬ et < ef ∧ et > (s.size : Int)) := by omega
  clear hE
  rcases hEE with q1 | ⟨q1, q2⟩ | ⟨q1, q2, q3⟩
  all_goals
    go_enter Tryz.func9, Tryz.ntmps9
    go_wp2_with (first
      | (go_at_call 21; (with_reducible refine HSD.out.mono ?_); rintro e w3 ⟨rfl, hb3⟩; have HB3 : Hid (Below w2.heap.size w2 w3) := hb3; have X3 : Bx w3 w.heap.size #[.int .i64 ef, .int .i64 et, .string n] 38 := HE2.out.below hb3 HE2.out.lt; have x0 : w3.cell? ⟨w.heap.size, 0, none⟩ = some (.int .i64 ef) := X3.cell 0; have x1 : w3.cell? ⟨w.heap.size, 1, none⟩ = some (.int .i64 et) := X3.cell 1; have x9 := X3.lt; clear hb3 X3)
      | (go_at_call 22; (with_reducible refine (faultAt_any _ _ _).mono ?_); rintro e w4 ⟨rfl, hb4⟩; have HB4 : Hid (Below w2.heap.size w2 w4) := HB3.out.trans (hb4.mono HB3.out.size); have F4 : Bx w4 (w.heap.size + 1) #[.int .i64 0, .int .i64 0, .int .i64 0] 26 := HF2.out.below HB4.out HF2.out.lt; have HF4 : Hid (Bx w4 (w.heap.size + 1) #[.int .i64 0, .int .i64 0, .int .i64 0] 26) := F4; have z0 : w4.cell? ⟨w.heap.size + 1, 0, none⟩ = some (.int .i64 0) := F4.cell 0; have z1 : w4.cell? ⟨w.heap.size + 1, 1, none⟩ = some (.int .i64 0) := F4.cell 1; have z2 : w4.cell? ⟨w.heap.size + 1, 2, none⟩ = some (.int .i64 0) := F4.cell 2; have f0 := F4.free 0; have f1 := F4.free 1; have f2 := F4.free 2; have l4 := F4.lt; clear hb4 F4))
    obtain ⟨r0, r1, r2⟩ := HF4.out.read3 (.int .i64 10) (.int .i64 0) (.int .i64 0)
    refine bodyPost_ret (v := .tuple #[.string .empty, .slice none 0 0, .agg #[.int .i64 10, .int .i64 0, .int .i64 0]]) (by simp [results, Tryz.results9, go_sem, r0, r1, r2]; rfl) rfl ⟨rfl, bel_put3 (HB2.out.trans (HB4.out.mono HB2.out.size)) (by omega)⟩
theorem nau_wau (s : ByteArray) : nau (wau s (cut s 0).1) = (cut s 0).1 := wau_back s _ (cut_k6 s _ 0 (Nat.le_refl _))
theorem cell_put3 {w : World} {g : Nat} {a : Addr} {v0 v1 v2 : Value} (h : a.block ≠ g) : (((w.setCell ⟨g, 0, none⟩ v0).setCell ⟨g, 1, none⟩ v1).setCell ⟨g, 2, none⟩ v2).cell? a = w.cell? a := by
  rw [World.cell?_setCell_other _ _ _ _ (by rintro rfl; exact h rfl), World.cell?_setCell_other _ _ _ _ (by rintro rfl; exact h rfl), World.cell?_setCell_other _ _ _ _ (by rintro rfl; exact h rfl)]
theorem bx_put3 {w : World} {g : Nat} {t : TypeId} {u0 u1 u2 : Value} (X : Bx w g #[u0, u1, u2] t) (v0 v1 v2 : Value) : Bx (((w.setCell ⟨g, 0, none⟩ v0).setCell ⟨g, 1, none⟩ v1).setCell ⟨g, 2, none⟩ v2) g #[v0, v1, v2] t := by
  have := ((X.set 0 v0).set 1 v1).set 2 v2
  simpa using this
theorem bx_other3 {w : World} {g k : Nat} {t : TypeId} {us : Array Value} (X : Bx w k us t) (h : k ≠ g) {v0 v1 v2 : Value} : Bx (((w.setCell ⟨g, 0, none⟩ v0).setCell ⟨g, 1, none⟩ v1).setCell ⟨g, 2, none⟩ v2) k us t := by
  unfold Bx
  rw [Below.heap_setCell _ _ _ _ h, Below.heap_setCell _ _ _ _ h, Below.heap_setCell _ _ _ _ h]
  exact X
theorem own_form' {w : World} {base e : Nat} {v : Value} {xs : List Tk} (h : w.ownsRow base e 3 v xs.length (flat xs)) : ∃ a cap, v = .slice a xs.length cap ∧ LiesA w a xs ∧ xs.length ≤ cap := by
  obtain ⟨a, c, hv, h1, -, h3⟩ := own_form h
  refine ⟨a, c, hv, h1, ?_⟩
  rcases h.2 with ⟨e1, e2⟩ | ⟨g, cap, cur, e1, -, -, r⟩
  · omega
  · rw [hv] at e1
    cases e1
    exact r.1
set_option maxRecDepth 1000000 in
set_option maxHeartbeats 16000000 in
theorem rescan_in (s : ByteArray) (a : Option Addr) (c : Nat) (xs : List Tk) (f t : Nat) (n : ByteArray) (hs : s.size ≤ 2147483640) (hn : n.size ≤ 2147483640) (hb : sdB s xs = true) (hft : f ≤ t) (ht : t ≤ s.size) (w : World) (hl : LiesA w a xs) (hS : Spl w) (hT : Lt w) (hM : MaxL w) :
    Calls Tryz.prog 9 #[.string s, .slice a xs.length c, .agg #[.int .i64 (f : Int), .int .i64 (t : Int), .string n]] w fun e w' => RcE (edE s n f t) w e w' := by
  obtain ⟨w2, e2, hb2, hs2, B1, B2⟩ := bx2 w #[.int .i64 (f : Int), .int .i64 (t : Int), .string n] #[.int .i64 0, .int .i64 0, .int .i64 0] 38 26
  have HB2 : Hid (Below w.heap.size w w2) := hb2
  have HE2 : Hid (∀ v, Below w2.heap.size w2 v → Bx v w.heap.size #[.int .i64 (f : Int), .int .i64 (t : Int), .string n] 38 ∧ Bx v (w.heap.size + 1) #[.int .i64 0, .int .i64 0, .int .i64 0] 26 ∧ Below w.heap.size w v) := fun v h => ⟨B1.below h B1.lt, B2.below h B2.lt, hb2.trans (h.mono hb2.size)⟩
  have h22 : w.heap.size + 1 < w2.heap.size := B2.lt
  obtain ⟨hC, hxe⟩ := sdB_true hb
  have hx : xs.length ≤ 281474976710656 := by
    have := wau_max (s := s) (by omega)
    rw [hxe]; omega
  have HSD : Hid (Calls Tryz.prog 21 #[.string s, .slice a xs.length c] w2 fun e w' => e = .returned (.bool true) ∧ Below w2.heap.size w2 w') := by
    have := Sound_any s a c xs (by omega) hx w2 (hl.below hb2) (hS.below hb2) (hT.below hb2) (hM.below hb2)
    rw [hb] at this
    exact this
  have hed := edE_edt s n f t hft ht
  have hsz := edE_size s n f t hft ht
  obtain ⟨s', hs'⟩ : ∃ s', edE s n f t = s' := ⟨_, rfl⟩
  have HED : Hid (∀ v, Calls Tryz.prog 23 #[.string s, .agg #[.int .i64 (f : Int), .int .i64 (t : Int), .string n]] v fun e w' => e = .returned (.string s') ∧ Below v.heap.size v w') := fun v => by
    rw [← hs']; exact edited_any s n f t (by omega) (by omega) hft ht v
  rw [hs'] at hed hsz ⊢
  have hs2' : s'.size ≤ 4294967280 := by omega
  obtain ⟨old, hold⟩ : ∃ old, (cut s 0).1 = old := ⟨_, rfl⟩
  have hnau := nau_wau s
  rw [← hxe, hold] at hnau
  have hx2 : xs.length ≤ 4398046510976 := by
    have := wau_max (s := s) (by omega)
    rw [hxe]; omega
  have HWO : Hid (∀ v, Below w.heap.size w v → Calls Tryz.prog 25 #[.slice a xs.length c] v fun e w' => ∃ a' c', e = .returned (.slice a' old.length c') ∧ LiesA w' a' old ∧ old.length ≤ c' ∧ Below v.heap.size v w') := fun v hv => by
    refine (withoutAutos_any a c xs v (hl.below hv) hx2).mono ?_
    rintro e w' ⟨u, rfl, ho, hb⟩
    rw [hnau] at ho
    obtain ⟨a', c', rfl, l1, l2⟩ := own_form' ho
    exact ⟨a', c', rfl, l1, l2, hb⟩
  have HAG : Hid (∀ v a' c', Below w.heap.size w v → LiesA v a' old → old.length ≤ c' → Calls Tryz.prog 24 #[.string s', .slice a' old.length c', .agg #[.int .i64 (f : Int), .int .i64 (t : Int), .string n]] v fun e w' => AgE s' v e w') := fun v a' c' hv h1 h2 => by
    subst hold
    exact again_any s n f t hs hn hC s' hed a' c' v h1 h2 (hS.below hv) (hT.below hv) (hM.below hv)
  have q1 : ¬ (f : Int) < 0 := by omega
  have q2 : ¬ (t : Int) < (f : Int) := by omega
  have q3 : ¬ (t : Int) > (s.size : Int) := by omega
  obtain ⟨hcq, hcl⟩ := cut_all s' s'.size 0 (by omega)
  obtain ⟨C, hC1⟩ : ∃ C, (cut s' 0).1 = C := ⟨_, rfl⟩
  rw [hC1] at hcq hcl
  rw [Nat.sub_zero] at hcl
  clear hb2 hs2 B1 B2 hl hS hT hM hb hsz hed hs' hold hnau hxe hC
  cases hN : (cut s' 0).2 with
  | some yz =>
    obtain ⟨y, z⟩ := yz
    obtain ⟨-, -, hy1, hy2, -⟩ := cut_first s' s'.size 0 y z (by omega) hN
    have hy0 : ((y : Int) == 0) = false := by rw [beq_eq_false_iff_ne]; omega
    have HAX : Hid (∀ v a' c', Below w.heap.size w v → LiesA v a' old → old.length ≤ c' → Calls Tryz.prog 24 #[.string s', .slice a' old.length c', .agg #[.int .i64 (f : Int), .int .i64 (t : Int), .string n]] v fun e w' => e = .returned (.tuple #[.slice none 0 0, .agg #[.int .i64 (y : Int), .int .i64 0, .int .i64 (z : Int)]]) ∧ Below v.heap.size v w') := fun v a' c' h1 h2 h3 => (HAG.out v a' c' h1 h2 h3).mono fun e w' h => by
      unfold AgE at h
      rw [hN] at h
      exact ⟨h.2, h.1⟩
    have HEND : Hid (∀ e w', Below w.heap.size w w' → e = .returned (.tuple #[.string s', .slice none 0 0, .agg #[.int .i64 (y : Int), .int .i64 0, .int .i64 (z : Int)]]) → RcE s' w e w') := fun e w' hb he => by
      unfold RcE
      rw [hN]
      exact ⟨hb, he⟩
    clear HAG hN hy1 hy2
    go_enter Tryz.func9, Tryz.ntmps9
    go_upto_region 6 with (first
      | (go_at_call 21; (with_reducible refine HSD.out.mono ?_); rintro e w3 ⟨rfl, hb3⟩; have HB3 : Hid (Below w2.heap.size w2 w3) := hb3; obtain ⟨X3, -, -⟩ := HE2.out w3 hb3; have x0 : w3.cell? ⟨w.heap.size, 0, none⟩ = some (.int .i64 (f : Int)) := X3.cell 0; have x1 : w3.cell? ⟨w.heap.size, 1, none⟩ = some (.int .i64 (t : Int)) := X3.cell 1; have x2 : w3.cell? ⟨w.heap.size, 2, none⟩ = some (.string n) := X3.cell 2; have x9 := X3.lt; clear hb3 X3)
      | (go_at_call 23; (with_reducible refine (HED.out _).mono ?_); rintro e w4 ⟨rfl, hb4⟩; have HB4 : Hid (Below w2.heap.size w2 w4) := HB3.out.trans (hb4.mono HB3.out.size); obtain ⟨X4, -, hw4⟩ := HE2.out w4 HB4.out; have HW4 : Hid (Below w.heap.size w w4) := hw4; have y0 : w4.cell? ⟨w.heap.size, 0, none⟩ = some (.int .i64 (f : Int)) := X4.cell 0; have y1 : w4.cell? ⟨w.heap.size, 1, none⟩ = some (.int .i64 (t : Int)) := X4.cell 1; have y2 : w4.cell? ⟨w.heap.size, 2, none⟩ = some (.string n) := X4.cell 2; have y9 := X4.lt; clear hb4 X4 hw4))
    have new1 := World.new_ne w4 ⟨w.heap.size, 0, none⟩ y0
    go_region_held3 (fun y => y.cell? ⟨w.heap.size, 0, none⟩ = some (.int .i64 (f : Int)) ∧ y.cell? ⟨w.heap.size, 1, none⟩ = some (.int .i64 (t : Int)) ∧ y.cell? ⟨w.heap.size, 2, none⟩ = some (.string n))
      (first
        | go_keep
        | (refine ⟨?_, ?_, ?_⟩ <;> assumption)
        | (refine ⟨?_, ?_, ?_⟩ <;> exact (cell_put3 (by show w.heap.size ≠ _; omega)).trans (by assumption)))
      ((first
        | (go_at_call 25; refine (HWO.out _ (by first | exact HW4.out.drew | exact HW4.out.drew.alloc HW4.out.size _)).mono ?_; rintro e w5 ⟨a5, c5, rfl, hl5, hc5, hb5⟩; have HB5 : Hid (Below w4.heap.size w4 w5) := (by first | exact (Below.refl _ w4).drew.trans hb5 | exact ((Below.refl _ w4).drew.alloc (Nat.le_refl _) _).trans (hb5.mono (by simp))); have HL5 : Hid (LiesA w5 a5 old) := hl5; have u0 : w5.cell? ⟨w.heap.size, 0, none⟩ = some (.int .i64 (f : Int)) := (HB5.out.cell (p := ⟨w.heap.size, 0, none⟩) y9).trans y0; have u1 : w5.cell? ⟨w.heap.size, 1, none⟩ = some (.int .i64 (t : Int)) := (HB5.out.cell (p := ⟨w.heap.size, 1, none⟩) y9).trans y1; have u2 : w5.cell? ⟨w.heap.size, 2, none⟩ = some (.string n) := (HB5.out.cell (p := ⟨w.heap.size, 2, none⟩) y9).trans y2; have u9 : w.heap.size < w5.heap.size := Nat.lt_of_lt_of_le y9 HB5.out.size; (first | (have k8 : Bx w5 w4.heap.size #[.int .i64 0, .int .i64 0, .int .i64 0] 26 := (Bx.new w4.drew _ _).below hb5 (by simp); have HK8 := hidI k8; clear k8) | skip); clear hb5 hl5)
        | (go_at_call 24; refine (HAX.out _ a5 c5 (by first | exact HW4.out.trans (HB5.out.mono HW4.out.size) | exact (HW4.out.trans (HB5.out.mono HW4.out.size)).alloc (Nat.le_trans HW4.out.size HB5.out.size) _) (by first | exact HL5.out | exact HL5.out.below ((Below.refl _ _).alloc (Nat.le_refl _) _)) hc5).mono ?_; rintro e w6 ⟨rfl, hb6⟩; have HB6 : Hid (Below w4.heap.size w4 w6) := (by first | exact HB5.out.trans (hb6.mono HB5.out.size) | exact (HB5.out.alloc HB5.out.size _).trans (hb6.mono (by have := HB5.out.size; simp; omega))); have t0 : w6.cell? ⟨w.heap.size, 0, none⟩ = some (.int .i64 (f : Int)) := (HB6.out.cell (p := ⟨w.heap.size, 0, none⟩) y9).trans y0; have t1 : w6.cell? ⟨w.heap.size, 1, none⟩ = some (.int .i64 (t : Int)) := (HB6.out.cell (p := ⟨w.heap.size, 1, none⟩) y9).trans y1; have t2 : w6.cell? ⟨w.heap.size, 2, none⟩ = some (.string n) := (HB6.out.cell (p := ⟨w.heap.size, 2, none⟩) y9).trans y2; have t9 : w.heap.size < w6.heap.size := Nat.lt_of_lt_of_le y9 HB6.out.size; (first | (have j8 : Bx w6 w4.heap.size #[.int .i64 0, .int .i64 0, .int .i64 0] 26 := HK8.out.below hb6 HK8.out.lt; have HJ8 : Hid (w4.heap.size ≤ w4.heap.size ∧ Bx w6 w4.heap.size #[.int .i64 0, .int .i64 0, .int .i64 0] 26) := ⟨Nat.le_refl _, j8⟩; have j0 := j8.cell 0; have j1 := j8.cell 1; have j2 := j8.cell 2; have jf0 := j8.free 0; have jf1 := j8.free 1; have jf2 := j8.free 2; have jz := j8.lt; simp at j0 j1 j2; clear j8) | (have j8 : Bx w6 w5.heap.size #[.int .i64 0, .int .i64 0, .int .i64 0] 26 := (Bx.new w5 _ _).below hb6 (by simp); have HJ8 : Hid (w4.heap.size ≤ w5.heap.size ∧ Bx w6 w5.heap.size #[.int .i64 0, .int .i64 0, .int .i64 0] 26) := ⟨HB5.out.size, j8⟩; have j0 := j8.cell 0; have j1 := j8.cell 1; have j2 := j8.cell 2; have jf0 := j8.free 0; have jf1 := j8.free 1; have jf2 := j8.free 2; have jz := j8.lt; simp at j0 j1 j2; clear j8) | skip); clear hb6)))
    · obtain ⟨W, hW⟩ : ∃ W, w6.alloc (.cells #[.int .i64 (y : Int), .int .i64 0, .int .i64 (z : Int)] 26) = W := ⟨_, rfl⟩
      have hb26 : Below w2.heap.size w2 w6 := HB4.out.trans (HB6.out.mono HB4.out.size)
      have h26 := hb26.size
      have h24 := HB4.out.size
      have h46 := HB6.out.size
      obtain ⟨-, F6, hb6'⟩ := HE2.out w6 hb26
      have Y8 : Bx W w6.heap.size #[.int .i64 (y : Int), .int .i64 0, .int .i64 (z : Int)] 26 := by rw [← hW]; exact Bx.new _ _ _
      have F8 : Bx W (w.heap.size + 1) #[.int .i64 0, .int .i64 0, .int .i64 0] 26 := by rw [← hW]; exact F6.alloc _
      have HBW : Hid (Below w.heap.size w W) := by unfold Hid; rw [← hW]; exact hb6'.alloc hb6'.size _
      rw [hW]
      have HF8 : Hid (Bx W (w.heap.size + 1) #[.int .i64 0, .int .i64 0, .int .i64 0] 26) := F8
      have z0 := F8.cell 0
      have z1 := F8.cell 1
      have z2 := F8.cell 2
      have f0 := F8.free 0
      have f1 := F8.free 1
      have f2 := F8.free 2
      have t0 := Y8.cell 0
      have t1 := Y8.cell 1
      have t2 := Y8.cell 2
      have l8 := F8.lt
      have m8 := Y8.lt
      simp at z0 z1 z2 t0 t1 t2
      clear F8 Y8 hW F6 hb6' hb26 h26 h24 h46
      go_wp2
      go_region
      all_goals
        go_wp2
        obtain ⟨r0, r1, r2⟩ := HF8.out.read3 (.int .i64 (y : Int)) (.int .i64 0) (.int .i64 (z : Int))
        refine bodyPost_ret (v := .tuple #[.string s', .slice none 0 0, .agg #[.int .i64 (y : Int), .int .i64 0, .int .i64 (z : Int)]]) (by simp [results, Tryz.results9, go_sem, r0, r1, r2]) rfl (HEND.out _ _ ((bel_put3 HBW.out (by omega)).drew) rfl)
    · obtain ⟨W, hW⟩ : ∃ W, ((w6.setCell ⟨w5.heap.size, 0, none⟩ (.int .i64 (y : Int))).setCell ⟨w5.heap.size, 1, none⟩ (.int .i64 0)).setCell ⟨w5.heap.size, 2, none⟩ (.int .i64 (z : Int)) = W := ⟨_, rfl⟩
      have hb26 : Below w2.heap.size w2 w6 := HB4.out.trans (HB6.out.mono HB4.out.size)
      have h26 := hb26.size
      have h24 := HB4.out.size
      have h46 := HB6.out.size
      obtain ⟨-, F6, hb6'⟩ := HE2.out w6 hb26
      obtain ⟨hP, j8⟩ := HJ8.out
      have Y8 : Bx W w5.heap.size #[.int .i64 (y : Int), .int .i64 0, .int .i64 (z : Int)] 26 := by rw [← hW]; exact bx_put3 j8 _ _ _
      have F8 : Bx W (w.heap.size + 1) #[.int .i64 0, .int .i64 0, .int .i64 0] 26 := by rw [← hW]; exact bx_other3 F6 (by omega)
      have HBW : Hid (Below w.heap.size w W) := by unfold Hid; rw [← hW]; exact bel_put3 hb6' (by omega)
      clear j8 hP j0 j1 j2 jf0 jf1 jf2 jz
      rw [hW]
      have HF8 : Hid (Bx W (w.heap.size + 1) #[.int .i64 0, .int .i64 0, .int .i64 0] 26) := F8
      have z0 := F8.cell 0
      have z1 := F8.cell 1
      have z2 := F8.cell 2
      have f0 := F8.free 0
      have f1 := F8.free 1
      have f2 := F8.free 2
      have t0 := Y8.cell 0
      have t1 := Y8.cell 1
      have t2 := Y8.cell 2
      have l8 := F8.lt
      have m8 := Y8.lt
      simp at z0 z1 z2 t0 t1 t2
      clear F8 Y8 hW F6 hb6' hb26 h26 h24 h46
      go_wp2
      go_region
      all_goals
        go_wp2
        obtain ⟨r0, r1, r2⟩ := HF8.out.read3 (.int .i64 (y : Int)) (.int .i64 0) (.int .i64 (z : Int))
        refine bodyPost_ret (v := .tuple #[.string s', .slice none 0 0, .agg #[.int .i64 (y : Int), .int .i64 0, .int .i64 (z : Int)]]) (by simp [results, Tryz.results9, go_sem, r0, r1, r2]) rfl (HEND.out _ _ ((bel_put3 HBW.out (by omega)).drew) rfl)
    · obtain ⟨W, hW⟩ : ∃ W, ((w6.setCell ⟨w4.heap.size, 0, none⟩ (.int .i64 (y : Int))).setCell ⟨w4.heap.size, 1, none⟩ (.int .i64 0)).setCell ⟨w4.heap.size, 2, none⟩ (.int .i64 (z : Int)) = W := ⟨_, rfl⟩
      have hb26 : Below w2.heap.size w2 w6 := HB4.out.trans (HB6.out.mono HB4.out.size)
      have h26 := hb26.size
      have h24 := HB4.out.size
      have h46 := HB6.out.size
      obtain ⟨-, F6, hb6'⟩ := HE2.out w6 hb26
      obtain ⟨hP, j8⟩ := HJ8.out
      have Y8 : Bx W w4.heap.size #[.int .i64 (y : Int), .int .i64 0, .int .i64 (z : Int)] 26 := by rw [← hW]; exact bx_put3 j8 _ _ _
      have F8 : Bx W (w.heap.size + 1) #[.int .i64 0, .int .i64 0, .int .i64 0] 26 := by rw [← hW]; exact bx_other3 F6 (by omega)
      have HBW : Hid (Below w.heap.size w W) := by unfold Hid; rw [← hW]; exact bel_put3 hb6' (by omega)
      clear j8 hP j0 j1 j2 jf0 jf1 jf2 jz
      rw [hW]
      have HF8 : Hid (Bx W (w.heap.size + 1) #[.int .i64 0, .int .i64 0, .int .i64 0] 26) := F8
      have z0 := F8.cell 0
      have z1 := F8.cell 1
      have z2 := F8.cell 2
      have f0 := F8.free 0
      have f1 := F8.free 1
      have f2 := F8.free 2
      have t0 := Y8.cell 0
      have t1 := Y8.cell 1
      have t2 := Y8.cell 2
      have l8 := F8.lt
      have m8 := Y8.lt
      simp at z0 z1 z2 t0 t1 t2
      clear F8 Y8 hW F6 hb6' hb26 h26 h24 h46
      go_wp2
      go_region
      all_goals
        go_wp2
        obtain ⟨r0, r1, r2⟩ := HF8.out.read3 (.int .i64 (y : Int)) (.int .i64 0) (.int .i64 (z : Int))
        refine bodyPost_ret (v := .tuple #[.string s', .slice none 0 0, .agg #[.int .i64 (y : Int), .int .i64 0, .int .i64 (z : Int)]]) (by simp [results, Tryz.results9, go_sem, r0, r1, r2]) rfl (HEND.out _ _ ((bel_put3 HBW.out (by omega)).drew) rfl)
  | none =>
    have HAX : Hid (∀ v a' c', Below w.heap.size w v → LiesA v a' old → old.length ≤ c' → Calls Tryz.prog 24 #[.string s', .slice a' old.length c', .agg #[.int .i64 (f : Int), .int .i64 (t : Int), .string n]] v fun e w' => ∃ a6 c6, e = .returned (.tuple #[.slice a6 C.length c6, .agg #[.int .i64 0, .int .i64 0, .int .i64 0]]) ∧ w'.ownsRow v.heap.size 50 3 (.slice a6 C.length c6) C.length (flat C) ∧ Below v.heap.size v w') := fun v a' c' h1 h2 h3 => (HAG.out v a' c' h1 h2 h3).mono fun e w' h => by
      unfold AgE at h
      rw [hN, hC1] at h
      obtain ⟨h0, u, he, ho⟩ := h
      obtain ⟨a6, c6, e6, -, -⟩ := own_form' ho
      subst e6
      exact ⟨a6, c6, he, ho, h0⟩
    have HEND : Hid (∀ v e w', Below w.heap.size w w' → e = .returned (.tuple #[.string s', v, .agg #[.int .i64 0, .int .i64 0, .int .i64 0]]) → w'.ownsRow w.heap.size 50 3 v (wau s' C).length (flat (wau s' C)) → RcE s' w e w') := fun v e w' hb he ho => by
      unfold RcE
      rw [hN, hC1]
      exact ⟨hb, v, he, ho⟩
    have HWA : Hid (∀ (B : Nat) (v : Value) (u : World), u.ownsRow B 50 3 v C.length (flat C) → Calls Tryz.prog 15 #[.string s', v] u fun e w' => ∃ v', e = .returned v' ∧ w'.ownsRow u.heap.size 50 3 v' (wau s' C).length (flat (wau s' C)) ∧ Below u.heap.size u w') := fun B v u hu => withAutos_own s' hs2' _ hcq hcl B v u hu
    clear HAG hN hC1 hcq
    go_enter Tryz.func9, Tryz.ntmps9
    go_upto_region 6 with (first
      | (go_at_call 21; (with_reducible refine HSD.out.mono ?_); rintro e w3 ⟨rfl, hb3⟩; have HB3 : Hid (Below w2.heap.size w2 w3) := hb3; obtain ⟨X3, -, -⟩ := HE2.out w3 hb3; have x0 : w3.cell? ⟨w.heap.size, 0, none⟩ = some (.int .i64 (f : Int)) := X3.cell 0; have x1 : w3.cell? ⟨w.heap.size, 1, none⟩ = some (.int .i64 (t : Int)) := X3.cell 1; have x2 : w3.cell? ⟨w.heap.size, 2, none⟩ = some (.string n) := X3.cell 2; have x9 := X3.lt; clear hb3 X3)
      | (go_at_call 23; (with_reducible refine (HED.out _).mono ?_); rintro e w4 ⟨rfl, hb4⟩; have HB4 : Hid (Below w2.heap.size w2 w4) := HB3.out.trans (hb4.mono HB3.out.size); obtain ⟨X4, -, hw4⟩ := HE2.out w4 HB4.out; have HW4 : Hid (Below w.heap.size w w4) := hw4; have y0 : w4.cell? ⟨w.heap.size, 0, none⟩ = some (.int .i64 (f : Int)) := X4.cell 0; have y1 : w4.cell? ⟨w.heap.size, 1, none⟩ = some (.int .i64 (t : Int)) := X4.cell 1; have y2 : w4.cell? ⟨w.heap.size, 2, none⟩ = some (.string n) := X4.cell 2; have y9 := X4.lt; clear hb4 X4 hw4))
    have new1 := World.new_ne w4 ⟨w.heap.size, 0, none⟩ y0
    go_region_held3 (fun y => y.cell? ⟨w.heap.size, 0, none⟩ = some (.int .i64 (f : Int)) ∧ y.cell? ⟨w.heap.size, 1, none⟩ = some (.int .i64 (t : Int)) ∧ y.cell? ⟨w.heap.size, 2, none⟩ = some (.string n))
      (first
        | go_keep
        | (refine ⟨?_, ?_, ?_⟩ <;> assumption)
        | (refine ⟨?_, ?_, ?_⟩ <;> exact (cell_put3 (by show w.heap.size ≠ _; omega)).trans (by assumption)))
      ((first
        | (go_at_call 25; refine (HWO.out _ (by first | exact HW4.out.drew | exact HW4.out.drew.alloc HW4.out.size _)).mono ?_; rintro e w5 ⟨a5, c5, rfl, hl5, hc5, hb5⟩; have HB5 : Hid (Below w4.heap.size w4 w5) := (by first | exact (Below.refl _ w4).drew.trans hb5 | exact ((Below.refl _ w4).drew.alloc (Nat.le_refl _) _).trans (hb5.mono (by simp))); have HL5 : Hid (LiesA w5 a5 old) := hl5; have u0 : w5.cell? ⟨w.heap.size, 0, none⟩ = some (.int .i64 (f : Int)) := (HB5.out.cell (p := ⟨w.heap.size, 0, none⟩) y9).trans y0; have u1 : w5.cell? ⟨w.heap.size, 1, none⟩ = some (.int .i64 (t : Int)) := (HB5.out.cell (p := ⟨w.heap.size, 1, none⟩) y9).trans y1; have u2 : w5.cell? ⟨w.heap.size, 2, none⟩ = some (.string n) := (HB5.out.cell (p := ⟨w.heap.size, 2, none⟩) y9).trans y2; have u9 : w.heap.size < w5.heap.size := Nat.lt_of_lt_of_le y9 HB5.out.size; (first | (have k8 : Bx w5 w4.heap.size #[.int .i64 0, .int .i64 0, .int .i64 0] 26 := (Bx.new w4.drew _ _).below hb5 (by simp); have HK8 := hidI k8; clear k8) | skip); clear hb5 hl5)
        | (go_at_call 24; refine (HAX.out _ a5 c5 (by first | exact HW4.out.trans (HB5.out.mono HW4.out.size) | exact (HW4.out.trans (HB5.out.mono HW4.out.size)).alloc (Nat.le_trans HW4.out.size HB5.out.size) _) (by first | exact HL5.out | exact HL5.out.below ((Below.refl _ _).alloc (Nat.le_refl _) _)) hc5).mono ?_; rintro e w6 ⟨a6, c6, rfl, ho6, hb6⟩; have HB6 : Hid (Below w4.heap.size w4 w6) := (by first | exact HB5.out.trans (hb6.mono HB5.out.size) | exact (HB5.out.alloc HB5.out.size _).trans (hb6.mono (by have := HB5.out.size; simp; omega))); have t0 : w6.cell? ⟨w.heap.size, 0, none⟩ = some (.int .i64 (f : Int)) := (HB6.out.cell (p := ⟨w.heap.size, 0, none⟩) y9).trans y0; have t1 : w6.cell? ⟨w.heap.size, 1, none⟩ = some (.int .i64 (t : Int)) := (HB6.out.cell (p := ⟨w.heap.size, 1, none⟩) y9).trans y1; have t2 : w6.cell? ⟨w.heap.size, 2, none⟩ = some (.string n) := (HB6.out.cell (p := ⟨w.heap.size, 2, none⟩) y9).trans y2; have t9 : w.heap.size < w6.heap.size := Nat.lt_of_lt_of_le y9 HB6.out.size; have HO6 : Hid (w6.ownsRow w4.heap.size 50 3 (.slice a6 C.length c6) C.length (flat C)) := (by first | exact own_lower ho6 HB5.out.size | exact own_lower ho6 (by have := HB5.out.size; simp; omega)); clear ho6; (first | (have j8 : Bx w6 w4.heap.size #[.int .i64 0, .int .i64 0, .int .i64 0] 26 := HK8.out.below hb6 HK8.out.lt; have HJ8 : Hid (w4.heap.size ≤ w4.heap.size ∧ Bx w6 w4.heap.size #[.int .i64 0, .int .i64 0, .int .i64 0] 26) := ⟨Nat.le_refl _, j8⟩; have j0 := j8.cell 0; have j1 := j8.cell 1; have j2 := j8.cell 2; have jf0 := j8.free 0; have jf1 := j8.free 1; have jf2 := j8.free 2; have jz := j8.lt; simp at j0 j1 j2; clear j8) | (have j8 : Bx w6 w5.heap.size #[.int .i64 0, .int .i64 0, .int .i64 0] 26 := (Bx.new w5 _ _).below hb6 (by simp); have HJ8 : Hid (w4.heap.size ≤ w5.heap.size ∧ Bx w6 w5.heap.size #[.int .i64 0, .int .i64 0, .int .i64 0] 26) := ⟨HB5.out.size, j8⟩; have j0 := j8.cell 0; have j1 := j8.cell 1; have j2 := j8.cell 2; have jf0 := j8.free 0; have jf1 := j8.free 1; have jf2 := j8.free 2; have jz := j8.lt; simp at j0 j1 j2; clear j8) | skip); clear hb6)))
    · obtain ⟨W, hW⟩ : ∃ W, w6.alloc (.cells #[.int .i64 0, .int .i64 0, .int .i64 0] 26) = W := ⟨_, rfl⟩
      have hb26 : Below w2.heap.size w2 w6 := HB4.out.trans (HB6.out.mono HB4.out.size)
      have h26 := hb26.size
      have h24 := HB4.out.size
      have h46 := HB6.out.size
      obtain ⟨-, F6, hb6'⟩ := HE2.out w6 hb26
      have Y8 : Bx W w6.heap.size #[.int .i64 0, .int .i64 0, .int .i64 0] 26 := by rw [← hW]; exact Bx.new _ _ _
      have F8 : Bx W (w.heap.size + 1) #[.int .i64 0, .int .i64 0, .int .i64 0] 26 := by rw [← hW]; exact F6.alloc _
      have HBW : Hid (Below w.heap.size w W) := by unfold Hid; rw [← hW]; exact hb6'.alloc hb6'.size _
      have HOW : Hid (W.ownsRow w4.heap.size 50 3 (.slice a6 C.length c6) C.length (flat C)) := by unfold Hid; rw [← hW]; exact HO6.out.alloc _
      rw [hW]
      have HF8 : Hid (Bx W (w.heap.size + 1) #[.int .i64 0, .int .i64 0, .int .i64 0] 26) := F8
      have z0 := F8.cell 0
      have z1 := F8.cell 1
      have z2 := F8.cell 2
      have f0 := F8.free 0
      have f1 := F8.free 1
      have f2 := F8.free 2
      have t0 := Y8.cell 0
      have t1 := Y8.cell 1
      have t2 := Y8.cell 2
      have l8 := F8.lt
      have m8 := Y8.lt
      simp at z0 z1 z2 t0 t1 t2
      clear F8 Y8 hW F6 hb6' hb26 h26 h24 h46
      go_wp2_with (go_at_call 15; (with_reducible refine (HWA.out _ _ _ HOW.out).mono ?_); rintro e w8 ⟨v8, rfl, ho8, hb8⟩; have HB8 : Hid (Below w.heap.size w w8) := HBW.out.trans (hb8.mono HBW.out.size); have HO8 : Hid (w8.ownsRow w.heap.size 50 3 v8 (wau s' C).length (flat (wau s' C))) := own_lower ho8 HBW.out.size; have G8 : Bx w8 (w.heap.size + 1) #[.int .i64 0, .int .i64 0, .int .i64 0] 26 := HF8.out.below hb8 HF8.out.lt; have HG8 : Hid (Bx w8 (w.heap.size + 1) #[.int .i64 0, .int .i64 0, .int .i64 0] 26) := G8; have p0 : w8.cell? ⟨w.heap.size + 1, 0, none⟩ = some (.int .i64 0) := G8.cell 0; have p1 : w8.cell? ⟨w.heap.size + 1, 1, none⟩ = some (.int .i64 0) := G8.cell 1; have p2 : w8.cell? ⟨w.heap.size + 1, 2, none⟩ = some (.int .i64 0) := G8.cell 2; have g0 := G8.free 0; have g1 := G8.free 1; have g2 := G8.free 2; have pz := G8.lt; clear ho8 hb8 G8)
      obtain ⟨r0, r1, r2⟩ := HG8.out.read3 (.int .i64 0) (.int .i64 0) (.int .i64 0)
      refine bodyPost_ret (v := .tuple #[.string s', v8, .agg #[.int .i64 0, .int .i64 0, .int .i64 0]]) (by simp [results, Tryz.results9, go_sem, r0, r1, r2]) rfl (HEND.out v8 _ _ (bel_put3 HB8.out (by omega)) rfl (own_put3 HO8.out HG8.out (by decide)))
    · obtain ⟨W, hW⟩ : ∃ W, ((w6.setCell ⟨w5.heap.size, 0, none⟩ (.int .i64 0)).setCell ⟨w5.heap.size, 1, none⟩ (.int .i64 0)).setCell ⟨w5.heap.size, 2, none⟩ (.int .i64 0) = W := ⟨_, rfl⟩
      have hb26 : Below w2.heap.size w2 w6 := HB4.out.trans (HB6.out.mono HB4.out.size)
      have h26 := hb26.size
      have h24 := HB4.out.size
      have h46 := HB6.out.size
      obtain ⟨-, F6, hb6'⟩ := HE2.out w6 hb26
      obtain ⟨hP, j8⟩ := HJ8.out
      have Y8 : Bx W w5.heap.size #[.int .i64 0, .int .i64 0, .int .i64 0] 26 := by rw [← hW]; exact bx_put3 j8 _ _ _
      have F8 : Bx W (w.heap.size + 1) #[.int .i64 0, .int .i64 0, .int .i64 0] 26 := by rw [← hW]; exact bx_other3 F6 (by omega)
      have HBW : Hid (Below w.heap.size w W) := by unfold Hid; rw [← hW]; exact bel_put3 hb6' (by omega)
      have HOW : Hid (W.ownsRow w4.heap.size 50 3 (.slice a6 C.length c6) C.length (flat C)) := by unfold Hid; rw [← hW]; exact own_put3 HO6.out j8 (by decide)
      clear j8 hP j0 j1 j2 jf0 jf1 jf2 jz
      rw [hW]
      have HF8 : Hid (Bx W (w.heap.size + 1) #[.int .i64 0, .int .i64 0, .int .i64 0] 26) := F8
      have z0 := F8.cell 0
      have z1 := F8.cell 1
      have z2 := F8.cell 2
      have f0 := F8.free 0
      have f1 := F8.free 1
      have f2 := F8.free 2
      have t0 := Y8.cell 0
      have t1 := Y8.cell 1
      have t2 := Y8.cell 2
      have l8 := F8.lt
      have m8 := Y8.lt
      simp at z0 z1 z2 t0 t1 t2
      clear F8 Y8 hW F6 hb6' hb26 h26 h24 h46
      go_wp2_with (go_at_call 15; (with_reducible refine (HWA.out _ _ _ HOW.out).mono ?_); rintro e w8 ⟨v8, rfl, ho8, hb8⟩; have HB8 : Hid (Below w.heap.size w w8) := HBW.out.trans (hb8.mono HBW.out.size); have HO8 : Hid (w8.ownsRow w.heap.size 50 3 v8 (wau s' C).length (flat (wau s' C))) := own_lower ho8 HBW.out.size; have G8 : Bx w8 (w.heap.size + 1) #[.int .i64 0, .int .i64 0, .int .i64 0] 26 := HF8.out.below hb8 HF8.out.lt; have HG8 : Hid (Bx w8 (w.heap.size + 1) #[.int .i64 0, .int .i64 0, .int .i64 0] 26) := G8; have p0 : w8.cell? ⟨w.heap.size + 1, 0, none⟩ = some (.int .i64 0) := G8.cell 0; have p1 : w8.cell? ⟨w.heap.size + 1, 1, none⟩ = some (.int .i64 0) := G8.cell 1; have p2 : w8.cell? ⟨w.heap.size + 1, 2, none⟩ = some (.int .i64 0) := G8.cell 2; have g0 := G8.free 0; have g1 := G8.free 1; have g2 := G8.free 2; have pz := G8.lt; clear ho8 hb8 G8)
      obtain ⟨r0, r1, r2⟩ := HG8.out.read3 (.int .i64 0) (.int .i64 0) (.int .i64 0)
      refine bodyPost_ret (v := .tuple #[.string s', v8, .agg #[.int .i64 0, .int .i64 0, .int .i64 0]]) (by simp [results, Tryz.results9, go_sem, r0, r1, r2]) rfl (HEND.out v8 _ _ (bel_put3 HB8.out (by omega)) rfl (own_put3 HO8.out HG8.out (by decide)))
    · obtain ⟨W, hW⟩ : ∃ W, ((w6.setCell ⟨w4.heap.size, 0, none⟩ (.int .i64 0)).setCell ⟨w4.heap.size, 1, none⟩ (.int .i64 0)).setCell ⟨w4.heap.size, 2, none⟩ (.int .i64 0) = W := ⟨_, rfl⟩
      have hb26 : Below w2.heap.size w2 w6 := HB4.out.trans (HB6.out.mono HB4.out.size)
      have h26 := hb26.size
      have h24 := HB4.out.size
      have h46 := HB6.out.size
      obtain ⟨-, F6, hb6'⟩ := HE2.out w6 hb26
      obtain ⟨hP, j8⟩ := HJ8.out
      have Y8 : Bx W w4.heap.size #[.int .i64 0, .int .i64 0, .int .i64 0] 26 := by rw [← hW]; exact bx_put3 j8 _ _ _
      have F8 : Bx W (w.heap.size + 1) #[.int .i64 0, .int .i64 0, .int .i64 0] 26 := by rw [← hW]; exact bx_other3 F6 (by omega)
      have HBW : Hid (Below w.heap.size w W) := by unfold Hid; rw [← hW]; exact bel_put3 hb6' (by omega)
      have HOW : Hid (W.ownsRow w4.heap.size 50 3 (.slice a6 C.length c6) C.length (flat C)) := by unfold Hid; rw [← hW]; exact own_put3 HO6.out j8 (by decide)
      clear j8 hP j0 j1 j2 jf0 jf1 jf2 jz
      rw [hW]
      have HF8 : Hid (Bx W (w.heap.size + 1) #[.int .i64 0, .int .i64 0, .int .i64 0] 26) := F8
      have z0 := F8.cell 0
      have z1 := F8.cell 1
      have z2 := F8.cell 2
      have f0 := F8.free 0
      have f1 := F8.free 1
      have f2 := F8.free 2
      have t0 := Y8.cell 0
      have t1 := Y8.cell 1
      have t2 := Y8.cell 2
      have l8 := F8.lt
      have m8 := Y8.lt
      simp at z0 z1 z2 t0 t1 t2
      clear F8 Y8 hW F6 hb6' hb26 h26 h24 h46
      go_wp2_with (go_at_call 15; (with_reducible refine (HWA.out _ _ _ HOW.out).mono ?_); rintro e w8 ⟨v8, rfl, ho8, hb8⟩; have HB8 : Hid (Below w.heap.size w w8) := HBW.out.trans (hb8.mono HBW.out.size); have HO8 : Hid (w8.ownsRow w.heap.size 50 3 v8 (wau s' C).length (flat (wau s' C))) := own_lower ho8 HBW.out.size; have G8 : Bx w8 (w.heap.size + 1) #[.int .i64 0, .int .i64 0, .int .i64 0] 26 := HF8.out.below hb8 HF8.out.lt; have HG8 : Hid (Bx w8 (w.heap.size + 1) #[.int .i64 0, .int .i64 0, .int .i64 0] 26) := G8; have p0 : w8.cell? ⟨w.heap.size + 1, 0, none⟩ = some (.int .i64 0) := G8.cell 0; have p1 : w8.cell? ⟨w.heap.size + 1, 1, none⟩ = some (.int .i64 0) := G8.cell 1; have p2 : w8.cell? ⟨w.heap.size + 1, 2, none⟩ = some (.int .i64 0) := G8.cell 2; have g0 := G8.free 0; have g1 := G8.free 1; have g2 := G8.free 2; have pz := G8.lt; clear ho8 hb8 G8)
      obtain ⟨r0, r1, r2⟩ := HG8.out.read3 (.int .i64 0) (.int .i64 0) (.int .i64 0)
      refine bodyPost_ret (v := .tuple #[.string s', v8, .agg #[.int .i64 0, .int .i64 0, .int .i64 0]]) (by simp [results, Tryz.results9, go_sem, r0, r1, r2]) rfl (HEND.out v8 _ _ (bel_put3 HB8.out (by omega)) rfl (own_put3 HO8.out HG8.out (by decide)))
end Go.Proofs.YtmnbakalcpanlaaGreatDoor
