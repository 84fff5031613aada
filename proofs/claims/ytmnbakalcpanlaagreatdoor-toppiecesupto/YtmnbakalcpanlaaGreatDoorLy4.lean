import Derived.Test.YtmnbakalcpanlaaGreatDoorLy3
namespace Go.Proofs.YtmnbakalcpanlaaGreatDoor
open Go.ChangeShapes Go.WideShapes Go.ChangeAt Go.RowKit
set_option linter.unusedVariables false
set_option linter.unusedSimpArgs false

/-- a piece and a fault, as the code tells them -/
def tokV (p : Nat) : Pce → Value
  | .ok k t => .agg #[.int .u8 k, .int .i64 p, .int .i64 t]
  | .no _ _ => .agg #[.int .u8 0, .int .i64 0, .int .i64 0]
def fltV : Pce → Value
  | .ok _ _ => .agg #[.int .i64 0, .int .i64 0, .int .i64 0]
  | .no y z => .agg #[.int .i64 y, .int .i64 0, .int .i64 z]
theorem cod_n {s : ByteArray} {k f c b : Nat} {it : Itm} (h : cod s k f c b = some it) : it.n = f + c ∧ k + c ≤ s.size ∧ it.v ≤ 1114111 := by
  unfold cod at h
  split at h
  · cases h
  · rename_i h0
    split at h
    · cases h
    · split at h
      · cases h
      · rename_i h1; cases h; exact ⟨rfl, by omega, by simp only; omega⟩
theorem esc_le {c q v : Nat} (hc : c < 256) (h : esc c q = some v) : v < 256 := by
  unfold esc at h
  repeat' split at h
  all_goals first | (cases h; omega) | (cases h; done)
theorem itm_n {s : ByteArray} {k q : Nat} {it : Itm} (hk : k < s.size) (h : itm s k q = some it) : 0 < it.n ∧ k + it.n ≤ s.size ∧ it.v ≤ 1114111 := by
  by_cases h92 : bt s k = 92
  · rw [itm_back h92] at h
    unfold esA at h
    split at h
    · cases h
    · rename_i h0
      cases he : esc (bt s (k + 1)) q with
      | some v =>
        rw [he] at h
        cases h
        exact ⟨by simp only; omega, by simp only; omega, by have := esc_le (bt_lt (by omega)) he; simp only; omega⟩
      | none =>
        rw [he] at h
        simp only at h
        repeat' split at h
        all_goals first | (cases h; done) | (have := cod_n h; omega)
  · rw [itm_else h92] at h
    cases h
    obtain ⟨f1, f2, _, _⟩ := dec_facts s k hk
    have := rn_lt s k
    exact ⟨by simp only; omega, f2, by simp only; omega⟩
/-- the first bad byte, as the code tells it -/
def badI : Option Nat → Int
  | none => -1
  | some z => (z : Int)
theorem quo_end {s : ByteArray} {q k c : Nat} {bad : Option Nat} (h : ¬ (k < s.size ∧ bt s k ≠ 10)) : quo s q k c bad = none := by rw [quo, dif_neg h]
theorem quo_quote {s : ByteArray} {q k c : Nat} {bad : Option Nat} (hk : k < s.size) (h10 : bt s k ≠ 10) (h : bt s k = q) : quo s q k c bad = some (k, c, bad) := by rw [quo, dif_pos ⟨hk, h10⟩, if_pos h]
theorem quo_none {s : ByteArray} {q k c : Nat} {bad : Option Nat} (hk : k < s.size) (hq : bt s k ≠ q) (h : ita s k q = none) : quo s q k c bad = none := by
  by_cases h10 : bt s k = 10
  · exact quo_end (fun h => h.2 h10)
  · unfold ita at h
    rw [if_neg (by omega)] at h
    rw [quo, dif_pos ⟨hk, h10⟩, if_neg hq, h]
theorem quo_step {s : ByteArray} {q k c : Nat} {bad : Option Nat} {it : Itm} (hk : k < s.size) (hq : bt s k ≠ q) (h : ita s k q = some it) : quo s q k c bad = quo s q (k + it.n) (c + 1) (if it.b = true ∧ bad = none then some k else bad) ∧ itm s k q = some it := by
  unfold ita at h
  split at h
  · cases h
  · rename_i h0
    have hn := itm_n hk h
    refine ⟨?_, h⟩
    rw [quo, dif_pos ⟨hk, by omega⟩, if_neg hq, h]
    simp only
    rw [dif_pos hn.1]

set_option maxRecDepth 100000 in
set_option maxHeartbeats 2000000 in
theorem faultAt_any (y : Int) (p : Int) (w : World) :
    Calls Tryz.prog 22 #[.int .i64 y, .int .i64 p] w fun e w' => e = .returned (.agg #[.int .i64 y, .int .i64 0, .int .i64 p]) ∧ Below w.heap.size w w' := by
  go_enter Tryz.func22, Tryz.ntmps22
  go_wp2
  refine bodyPost_ret (v := .agg #[.int .i64 y, .int .i64 0, .int .i64 p]) (by simp [results, Tryz.results22, go_sem]) rfl ⟨rfl, by go_grown⟩

theorem Bx.read3 {w : World} {g : Nat} {t : TypeId} {u0 u1 u2 : Value} (B : Bx w g #[u0, u1, u2] t) (v0 v1 v2 : Value) :
    (w.setCell ⟨g, 0, none⟩ v0).cell? ⟨g, 0, none⟩ = some v0 ∧ ((w.setCell ⟨g, 0, none⟩ v0).setCell ⟨g, 1, none⟩ v1).cell? ⟨g, 1, none⟩ = some v1 ∧ (((w.setCell ⟨g, 0, none⟩ v0).setCell ⟨g, 1, none⟩ v1).setCell ⟨g, 2, none⟩ v2).cell? ⟨g, 2, none⟩ = some v2 :=
  ⟨by rw [(B.set 0 v0).cell 0]; rfl, by rw [((B.set 0 v0).set 1 v1).cell 1]; rfl, by rw [(((B.set 0 v0).set 1 v1).set 2 v2).cell 2]; rfl⟩
theorem Bx.put3 {w : World} {g h : Nat} {t : TypeId} {vs : Array Value} (B : Bx w g vs t) (hne : g ≠ h) (v0 v1 v2 : Value) : Bx (((w.setCell ⟨h, 0, none⟩ v0).setCell ⟨h, 1, none⟩ v1).setCell ⟨h, 2, none⟩ v2) g vs t :=
  ((B.other ⟨h, 0, none⟩ hne v0).other ⟨h, 1, none⟩ hne v1).other ⟨h, 2, none⟩ hne v2
theorem bel_put3 {B : Nat} {a w : World} {g : Nat} {v0 v1 v2 : Value} (h : Below B a w) (hg : B ≤ g) : Below B a (((w.setCell ⟨g, 0, none⟩ v0).setCell ⟨g, 1, none⟩ v1).setCell ⟨g, 2, none⟩ v2) :=
  ((h.setCell (p := ⟨g, 0, none⟩) hg _).setCell (p := ⟨g, 1, none⟩) hg _).setCell (p := ⟨g, 2, none⟩) hg _

theorem two_boxes {w : World} {g : Nat} {t t' : TypeId} {a0 a1 a2 b0 b1 b2 : Value} (X : Bx w g #[a0, a1, a2] t) (Y : Bx w (g + 1) #[b0, b1, b2] t') (u0 u1 u2 v0 v1 v2 : Value) :
    (w.setCell ⟨g, 0, none⟩ u0).cell? ⟨g, 0, none⟩ = some u0 ∧ ((w.setCell ⟨g, 0, none⟩ u0).setCell ⟨g, 1, none⟩ u1).cell? ⟨g, 1, none⟩ = some u1 ∧ (((w.setCell ⟨g, 0, none⟩ u0).setCell ⟨g, 1, none⟩ u1).setCell ⟨g, 2, none⟩ u2).cell? ⟨g, 2, none⟩ = some u2 ∧
    ((((w.setCell ⟨g, 0, none⟩ u0).setCell ⟨g, 1, none⟩ u1).setCell ⟨g, 2, none⟩ u2).setCell ⟨g + 1, 0, none⟩ v0).cell? ⟨g + 1, 0, none⟩ = some v0 ∧ (((((w.setCell ⟨g, 0, none⟩ u0).setCell ⟨g, 1, none⟩ u1).setCell ⟨g, 2, none⟩ u2).setCell ⟨g + 1, 0, none⟩ v0).setCell ⟨g + 1, 1, none⟩ v1).cell? ⟨g + 1, 1, none⟩ = some v1 ∧
    ((((((w.setCell ⟨g, 0, none⟩ u0).setCell ⟨g, 1, none⟩ u1).setCell ⟨g, 2, none⟩ u2).setCell ⟨g + 1, 0, none⟩ v0).setCell ⟨g + 1, 1, none⟩ v1).setCell ⟨g + 1, 2, none⟩ v2).cell? ⟨g + 1, 2, none⟩ = some v2 := by
  obtain ⟨h0, h1, h2⟩ := X.read3 u0 u1 u2
  obtain ⟨k0, k1, k2⟩ := (Y.put3 (h := g) (by omega) u0 u1 u2).read3 v0 v1 v2
  exact ⟨h0, h1, h2, k0, k1, k2⟩
theorem bel_two {B : Nat} {a w : World} {g : Nat} {u0 u1 u2 v0 v1 v2 : Value} (h : Below B a w) (hg : B ≤ g) : Below B a ((((((w.setCell ⟨g, 0, none⟩ u0).setCell ⟨g, 1, none⟩ u1).setCell ⟨g, 2, none⟩ u2).setCell ⟨g + 1, 0, none⟩ v0).setCell ⟨g + 1, 1, none⟩ v1).setCell ⟨g + 1, 2, none⟩ v2) :=
  bel_put3 (bel_put3 h hg) (by omega)
/-- two boxes may be read and written -/
structure Two (w : World) (g : Nat) (t t' : TypeId) : Prop where
  x0 : w.cell? ⟨g, 0, none⟩ = some (.int .u8 0)
  x1 : w.cell? ⟨g, 1, none⟩ = some (.int .i64 0)
  x2 : w.cell? ⟨g, 2, none⟩ = some (.int .i64 0)
  y0 : w.cell? ⟨g + 1, 0, none⟩ = some (.int .i64 0)
  y1 : w.cell? ⟨g + 1, 1, none⟩ = some (.int .i64 0)
  y2 : w.cell? ⟨g + 1, 2, none⟩ = some (.int .i64 0)
  f : ∀ i, w.frozen? ⟨g, i, none⟩ = false
  h : ∀ i, w.frozen? ⟨g + 1, i, none⟩ = false
theorem two_of {w : World} {g : Nat} {t t' : TypeId} (X : Bx w g #[.int .u8 0, .int .i64 0, .int .i64 0] t) (Y : Bx w (g + 1) #[.int .i64 0, .int .i64 0, .int .i64 0] t') : Two w g t t' :=
  ⟨X.cell 0, X.cell 1, X.cell 2, Y.cell 0, Y.cell 1, Y.cell 2, X.free, Y.free⟩

/-- a character or a text, cut: by the items -/
def itO (p kd : Nat) : Option (Nat × Nat × Option Nat) → Pce
  | none => .no 22 p
  | some (t, c, bad) => if kd = 4 ∧ c ≠ 1 then .no 22 p else
    match bad with
    | some z => .no 20 z
    | none => .ok kd (t + 1)
def itP (s : ByteArray) (p q kd : Nat) : Pce := itO p kd (quo s q (p + 1) 0 none)

set_option maxRecDepth 1000000 in
set_option maxHeartbeats 4000000 in
theorem items_any (b : Nat) (s : ByteArray) (p q kd : Nat) (hs : s.size ≤ 4294967280) (hp : p < s.size) (hc : (s[p]'hp).toNat = q) (hq : (q = 34 ∧ kd = 5) ∨ (q = 39 ∧ kd = 4)) (w : World) (hb : w.cell? ⟨b, 0, none⟩ = some (.string s)) (hT : U8 w) :
    Calls Tryz.prog 57 #[.pointer (some ⟨b, 0, none⟩), .int .i64 p, .int .u8 kd] w fun e w' => e = .returned (.tuple #[tokV p (itP s p q kd), fltV (itP s p q kd)]) ∧ Below w.heap.size w w' := by
  have hbl : b < w.heap.size := World.block_lt_of_cell? _ _ hb
  obtain ⟨w2, e2, hw, hs2, B0, B1⟩ := bx2 w #[.int .u8 0, .int .i64 0, .int .i64 0] #[.int .i64 0, .int .i64 0, .int .i64 0] 50 26
  have HE2 : Hid ((w.alloc (.cells #[.int .u8 0, .int .i64 0, .int .i64 0] 50)).alloc (.cells #[.int .i64 0, .int .i64 0, .int .i64 0] 26) = w2) := e2
  have HB2 : Hid (Below w.heap.size w w2) := hw
  have HX : Hid (∀ v, Below w2.heap.size w2 v → Bx v w.heap.size #[.int .u8 0, .int .i64 0, .int .i64 0] 50 ∧ Bx v (w.heap.size + 1) #[.int .i64 0, .int .i64 0, .int .i64 0] 26 ∧ v.cell? ⟨b, 0, none⟩ = some (.string s) ∧ U8 v ∧ Below w.heap.size w v) :=
    fun v h => ⟨B0.below h B0.lt, B1.below h B1.lt, (h.cell (p := ⟨b, 0, none⟩) (by show b < _; omega)).trans ((hw.cell (p := ⟨b, 0, none⟩) hbl).trans hb), (hT.below hw).below h, hw.trans (h.mono hw.size)⟩
  have HQ34 : Hid (q = 34 ∨ q = 39) := by unfold Hid; omega
  have hq0 : q < 256 ∧ q ≠ 10 := by omega
  have hk0 : kd < 256 := by omega
  obtain ⟨O, hO⟩ : ∃ O, quo s q (p + 1) 0 none = O := ⟨_, rfl⟩
  have HO : Hid (quo s q (p + 1) 0 none = O) := hO
  have hPR : itP s p q kd = itO p kd O := by unfold itP; rw [hO]
  rw [hPR]
  clear hPR
  obtain ⟨x0, x1, c2, -, -⟩ := HX.out w2 (Below.refl _ _)
  have hp' : (p : Int) < (s.size : Int) := by omega
  clear e2 hw hs2 B0 B1 hT hb hO x0 x1
  have HS2 : Hid (Below w2.heap.size w2 w2) := Below.refl _ _
  go_enter Tryz.func57, Tryz.ntmps57
  go_upto_region 1 with fail
  rw [HE2.out]
  go_wp2
  go_loopw [9, 10, 11] (fun sc sb st wr => ∃ (k c : Nat) (bad : Option Nat), p < k ∧ k ≤ s.size ∧ c ≤ k ∧ sc = .int .i64 (c : Int) ∧ sb = .int .i64 (badI bad) ∧ st = .int .i64 (k : Int) ∧ quo s q k c bad = O ∧ (∀ z, bad = some z → z < s.size) ∧ Below w2.heap.size w2 wr) (fun _ _ st _ => s.size - (intOf st).toNat)
  case atStart => exact ⟨p + 1, 0, none, by omega, by omega, by omega, rfl, rfl, by go_num, HO.out, by simp, HS2.out⟩
  case round =>
    obtain ⟨k, c, bad, hpk, hk, hck, rfl, rfl, rfl, hquo, hbz, hbel⟩ := hrel
    have HB : Hid (Below w2.heap.size w2 wr) := hbel
    have HK : Hid (quo s q k c bad = O) := hquo
    have HBZ : Hid (∀ z, bad = some z → z < s.size) := hbz
    obtain ⟨X0, X1, cb, hT, hW⟩ := HX.out wr hbel
    have HX0 : Hid (Bx wr w.heap.size #[.int .u8 0, .int .i64 0, .int .i64 0] 50) := X0
    have HX1 : Hid (Bx wr (w.heap.size + 1) #[.int .i64 0, .int .i64 0, .int .i64 0] 26) := X1
    have HT : Hid (U8 wr) := hT
    have HW : Hid (Below w.heap.size w wr) := hW
    have hbr : b < wr.heap.size := by have := hW.size; omega
    clear hbel hquo hbz X0 X1 hT hW c2
    by_cases hlt : k < s.size
    · have hlt' : (k : Int) < (s.size : Int) := by omega
      obtain ⟨n, hn⟩ : ∃ n, (s[k]'hlt).toNat = n := ⟨_, rfl⟩
      have hbt : bt s k = n := by rw [bt_in hlt, hn]
      by_cases hnq : n = q
      · have HQ1 : O = some (k, c, bad) := by rw [← HK.out]; exact quo_quote hlt (by omega) (by omega)
        have hne : ((n : Int) != (q : Int)) = false := by simp; omega
        have hk3 : ((k : Int) == (s.size : Int)) = false := by simp; omega
        clear HK
        by_cases h4 : kd = 4 ∧ c ≠ 1
        · have HR : Hid (itO p kd O = .no 22 p) := by unfold Hid; rw [HQ1]; simp only [itO]; rw [if_pos h4]
          have g4 : ((kd : Int) == 4) = true := by simp; omega
          have g1 : ((c : Int) != 1) = true := by simp; omega
          clear HQ1 h4
          go_wp2_with (first
            | (go_at_call 22; (with_reducible refine (faultAt_any _ _ _).mono ?_); rintro e w4 ⟨rfl, hb4⟩; have HB4 : Hid (Below w2.heap.size w2 w4) := HB.out.trans (hb4.mono HB.out.size); obtain ⟨Y0, Y1, -, -, HW4'⟩ := HX.out w4 HB4.out; have HW4 : Hid (Below w.heap.size w w4) := HW4'; have HY0 : Hid (Bx w4 w.heap.size #[.int .u8 0, .int .i64 0, .int .i64 0] 50) := Y0; have HY1 : Hid (Bx w4 (w.heap.size + 1) #[.int .i64 0, .int .i64 0, .int .i64 0] 26) := Y1; obtain ⟨z0, z1, z2, z3, z4, z5, zf, zh⟩ := two_of Y0 Y1; have f0 := zf 0; have f1 := zf 1; have f2 := zf 2; have h0 := zh 0; have h1 := zh 1; have h2 := zh 2; clear hb4 HW4' Y0 Y1 zf zh))
          obtain ⟨r0, r1, r2, r3, r4, r5⟩ := two_boxes HY0.out HY1.out (.int .u8 0) (.int .i64 0) (.int .i64 0) (.int .i64 22) (.int .i64 0) (.int .i64 (p : Int))
          refine bodyPost_ret (v := .tuple #[.agg #[.int .u8 0, .int .i64 0, .int .i64 0], .agg #[.int .i64 22, .int .i64 0, .int .i64 (p : Int)]]) (by simp [results, Tryz.results57, go_sem, r0, r1, r2, r3, r4, r5]) rfl ⟨by rw [HR.out]; rfl, bel_two HW4.out (Nat.le_refl _)⟩
        · have HD : Hid (((kd : Int) == 4) = false ∨ (((kd : Int) == 4) = true ∧ ((c : Int) != 1) = false)) := by unfold Hid; simp; omega
          cases bad with
          | some z =>
            have HR : Hid (itO p kd O = .no 20 z) := by unfold Hid; rw [HQ1]; simp only [itO]; rw [if_neg h4]
            have hz : (0 : Int) ≤ (z : Int) := by omega
            rw [show badI (some z) = (z : Int) from rfl]
            clear HQ1 h4
            rcases HD.out with g4 | ⟨g4, g1⟩
            all_goals clear HD
            · go_wp2_with (first
                | (go_at_call 22; (with_reducible refine (faultAt_any _ _ _).mono ?_); rintro e w4 ⟨rfl, hb4⟩; have HB4 : Hid (Below w2.heap.size w2 w4) := HB.out.trans (hb4.mono HB.out.size); obtain ⟨Y0, Y1, -, -, HW4'⟩ := HX.out w4 HB4.out; have HW4 : Hid (Below w.heap.size w w4) := HW4'; have HY0 : Hid (Bx w4 w.heap.size #[.int .u8 0, .int .i64 0, .int .i64 0] 50) := Y0; have HY1 : Hid (Bx w4 (w.heap.size + 1) #[.int .i64 0, .int .i64 0, .int .i64 0] 26) := Y1; obtain ⟨z0, z1, z2, z3, z4, z5, zf, zh⟩ := two_of Y0 Y1; have f0 := zf 0; have f1 := zf 1; have f2 := zf 2; have h0 := zh 0; have h1 := zh 1; have h2 := zh 2; clear hb4 HW4' Y0 Y1 zf zh))
              obtain ⟨r0, r1, r2, r3, r4, r5⟩ := two_boxes HY0.out HY1.out (.int .u8 0) (.int .i64 0) (.int .i64 0) (.int .i64 20) (.int .i64 0) (.int .i64 (z : Int))
              refine bodyPost_ret (v := .tuple #[.agg #[.int .u8 0, .int .i64 0, .int .i64 0], .agg #[.int .i64 20, .int .i64 0, .int .i64 (z : Int)]]) (by simp [results, Tryz.results57, go_sem, r0, r1, r2, r3, r4, r5]) rfl ⟨by rw [HR.out]; rfl, bel_two HW4.out (Nat.le_refl _)⟩
            · go_wp2_with (first
                | (go_at_call 22; (with_reducible refine (faultAt_any _ _ _).mono ?_); rintro e w4 ⟨rfl, hb4⟩; have HB4 : Hid (Below w2.heap.size w2 w4) := HB.out.trans (hb4.mono HB.out.size); obtain ⟨Y0, Y1, -, -, HW4'⟩ := HX.out w4 HB4.out; have HW4 : Hid (Below w.heap.size w w4) := HW4'; have HY0 : Hid (Bx w4 w.heap.size #[.int .u8 0, .int .i64 0, .int .i64 0] 50) := Y0; have HY1 : Hid (Bx w4 (w.heap.size + 1) #[.int .i64 0, .int .i64 0, .int .i64 0] 26) := Y1; obtain ⟨z0, z1, z2, z3, z4, z5, zf, zh⟩ := two_of Y0 Y1; have f0 := zf 0; have f1 := zf 1; have f2 := zf 2; have h0 := zh 0; have h1 := zh 1; have h2 := zh 2; clear hb4 HW4' Y0 Y1 zf zh))
              obtain ⟨r0, r1, r2, r3, r4, r5⟩ := two_boxes HY0.out HY1.out (.int .u8 0) (.int .i64 0) (.int .i64 0) (.int .i64 20) (.int .i64 0) (.int .i64 (z : Int))
              refine bodyPost_ret (v := .tuple #[.agg #[.int .u8 0, .int .i64 0, .int .i64 0], .agg #[.int .i64 20, .int .i64 0, .int .i64 (z : Int)]]) (by simp [results, Tryz.results57, go_sem, r0, r1, r2, r3, r4, r5]) rfl ⟨by rw [HR.out]; rfl, bel_two HW4.out (Nat.le_refl _)⟩
          | none =>
            have HR : Hid (itO p kd O = .ok kd (k + 1)) := by unfold Hid; rw [HQ1]; simp only [itO]; rw [if_neg h4]
            have hz : ¬ (0 : Int) ≤ (-1 : Int) := by decide
            rw [show badI none = (-1 : Int) from rfl]
            clear HQ1 h4
            obtain ⟨z0, z1, z2, z3, z4, z5, zf, zh⟩ := two_of HX0.out HX1.out
            have f0 := zf 0; have f1 := zf 1; have f2 := zf 2; have h0 := zh 0; have h1 := zh 1; have h2 := zh 2
            clear zf zh
            obtain ⟨r0, r1, r2, r3, r4, r5⟩ := two_boxes HX0.out HX1.out (.int .u8 (kd : Int)) (.int .i64 (p : Int)) (.int .i64 ((k : Int) + 1)) (.int .i64 0) (.int .i64 0) (.int .i64 0)
            rcases HD.out with g4 | ⟨g4, g1⟩
            all_goals clear HD
            · go_wp2
              refine bodyPost_ret (v := .tuple #[.agg #[.int .u8 (kd : Int), .int .i64 (p : Int), .int .i64 ((k : Int) + 1)], .agg #[.int .i64 0, .int .i64 0, .int .i64 0]]) (by simp [results, Tryz.results57, go_sem, r0, r1, r2, r3, r4, r5]) rfl ⟨by rw [HR.out]; simp [tokV, fltV], bel_two HW.out (Nat.le_refl _)⟩
            · go_wp2
              refine bodyPost_ret (v := .tuple #[.agg #[.int .u8 (kd : Int), .int .i64 (p : Int), .int .i64 ((k : Int) + 1)], .agg #[.int .i64 0, .int .i64 0, .int .i64 0]]) (by simp [results, Tryz.results57, go_sem, r0, r1, r2, r3, r4, r5]) rfl ⟨by rw [HR.out]; simp [tokV, fltV], bel_two HW.out (Nat.le_refl _)⟩
      · have hne : ((n : Int) != (q : Int)) = true := by simp; omega
        have HI : Hid (Calls Tryz.prog 70 #[.string s, .int .i64 (k : Int), .int .u8 q] wr fun e w' => e = .returned (.tuple #[itV k (ita s k q), .bool (ita s k q).isSome]) ∧ Below wr.heap.size wr w') := itemAt_any s k q hs HQ34.out hk wr HT.out
        cases hi : ita s k q with
        | none =>
          have HR : Hid (itO p kd O = .no 22 p) := by unfold Hid; rw [← HK.out, quo_none hlt (by omega) hi]; rfl
          rw [hi] at HI
          have HI' : Hid (Calls Tryz.prog 70 #[.string s, .int .i64 (k : Int), .int .u8 q] wr fun e' w' => e' = .returned (.tuple #[.agg #[.int .i64 0, .int .i64 0, .bool false, .bool false], .bool false]) ∧ Below wr.heap.size wr w') := HI
          clear HI hi HK
          go_wp2_with (first
            | (go_at_call 70; (with_reducible refine HI'.out.mono ?_); rintro e w3 ⟨rfl, hb3⟩; have HB3 : Hid (Below w2.heap.size w2 w3) := HB.out.trans (hb3.mono HB.out.size); obtain ⟨-, -, cb3, -, -⟩ := HX.out w3 HB3.out; have hb3r : b < w3.heap.size := (by have := hb3.size; omega); have HB3a : Hid (Below w2.heap.size w2 (w3.alloc (.cells #[.int .i64 0, .int .i64 0, .bool false, .bool false] 108))) := HB3.out.alloc HB3.out.size _; clear hb3)
            | (go_at_call 22; (with_reducible refine (faultAt_any _ _ _).mono ?_); rintro e w4 ⟨rfl, hb4⟩; have HB4 : Hid (Below w2.heap.size w2 w4) := HB3a.out.trans (hb4.mono HB3a.out.size); obtain ⟨Y0, Y1, -, -, HW4'⟩ := HX.out w4 HB4.out; have HW4 : Hid (Below w.heap.size w w4) := HW4'; have HY0 : Hid (Bx w4 w.heap.size #[.int .u8 0, .int .i64 0, .int .i64 0] 50) := Y0; have HY1 : Hid (Bx w4 (w.heap.size + 1) #[.int .i64 0, .int .i64 0, .int .i64 0] 26) := Y1; obtain ⟨z0, z1, z2, z3, z4, z5, zf, zh⟩ := two_of Y0 Y1; have f0 := zf 0; have f1 := zf 1; have f2 := zf 2; have h0 := zh 0; have h1 := zh 1; have h2 := zh 2; clear hb4 HW4' Y0 Y1 zf zh))
          obtain ⟨r0, r1, r2, r3, r4, r5⟩ := two_boxes HY0.out HY1.out (.int .u8 0) (.int .i64 0) (.int .i64 0) (.int .i64 22) (.int .i64 0) (.int .i64 (p : Int))
          refine bodyPost_ret (v := .tuple #[.agg #[.int .u8 0, .int .i64 0, .int .i64 0], .agg #[.int .i64 22, .int .i64 0, .int .i64 (p : Int)]]) (by simp [results, Tryz.results57, go_sem, r0, r1, r2, r3, r4, r5]) rfl ⟨by rw [HR.out]; rfl, bel_two HW4.out (Nat.le_refl _)⟩
        | some it =>
          obtain ⟨hstep, hitm⟩ := quo_step (c := c) (bad := bad) hlt (by omega) hi
          obtain ⟨g1, g2, g3⟩ := itm_n hlt hitm
          rw [hi] at HI
          obtain ⟨m, v, e, bb⟩ := it
          have HI' : Hid (Calls Tryz.prog 70 #[.string s, .int .i64 (k : Int), .int .u8 q] wr fun e' w' => e' = .returned (.tuple #[.agg #[.int .i64 (v : Int), .int .i64 ((k : Int) + (m : Int)), .bool e, .bool bb], .bool true]) ∧ Below wr.heap.size wr w') := HI
          simp only at g1 g2 g3 hstep
          have HN : Hid (quo s q (k + m) (c + 1) (if bb = true ∧ bad = none then some k else bad) = O) := by unfold Hid; rw [← HK.out, hstep]
          clear HI hi hstep hitm HK
          cases bb with
          | false =>
            rw [if_neg (by simp)] at HN
            go_wp2_with (go_at_call 70; (with_reducible refine HI'.out.mono ?_); rintro e w3 ⟨rfl, hb3⟩; have HB3 : Hid (Below w2.heap.size w2 w3) := HB.out.trans (hb3.mono HB.out.size); obtain ⟨-, -, cb3, -, -⟩ := HX.out w3 HB3.out; have hb3r : b < w3.heap.size := (by have := hb3.size; omega); clear hb3)
            go_roundw
            case rel => exact ⟨k + m, c + 1, bad, by omega, by omega, by omega, by go_num, rfl, by go_num, HN.out, HBZ.out, HB3.out.alloc HB3.out.size _⟩
            case measure => simp [intOf]; omega
          | true =>
            cases bad with
            | none =>
              rw [if_pos ⟨rfl, rfl⟩] at HN
              have hbn : (-1 : Int) < 0 := by decide
              rw [show badI none = (-1 : Int) from rfl]
              go_wp2_with (go_at_call 70; (with_reducible refine HI'.out.mono ?_); rintro e w3 ⟨rfl, hb3⟩; have HB3 : Hid (Below w2.heap.size w2 w3) := HB.out.trans (hb3.mono HB.out.size); obtain ⟨-, -, cb3, -, -⟩ := HX.out w3 HB3.out; have hb3r : b < w3.heap.size := (by have := hb3.size; omega); clear hb3)
              go_roundw
              case rel => exact ⟨k + m, c + 1, some k, by omega, by omega, by omega, by go_num, rfl, by go_num, HN.out, fun z hz => by cases hz; exact hlt, HB3.out.alloc HB3.out.size _⟩
              case measure => simp [intOf]; omega
            | some z =>
              rw [if_neg (by simp)] at HN
              have hbn : ¬ (z : Int) < 0 := by omega
              rw [show badI (some z) = (z : Int) from rfl]
              go_wp2_with (go_at_call 70; (with_reducible refine HI'.out.mono ?_); rintro e w3 ⟨rfl, hb3⟩; have HB3 : Hid (Below w2.heap.size w2 w3) := HB.out.trans (hb3.mono HB.out.size); obtain ⟨-, -, cb3, -, -⟩ := HX.out w3 HB3.out; have hb3r : b < w3.heap.size := (by have := hb3.size; omega); clear hb3)
              go_roundw
              case rel => exact ⟨k + m, c + 1, some z, by omega, by omega, by omega, by go_num, rfl, by go_num, HN.out, HBZ.out, HB3.out.alloc HB3.out.size _⟩
              case measure => simp [intOf]; omega
    · have hk2 : k = s.size := by omega
      have HR : Hid (itO p kd O = .no 22 p) := by unfold Hid; rw [← HK.out, quo_end (by omega)]; rfl
      have hge : ¬ (k : Int) < (s.size : Int) := by omega
      have heq : ((k : Int) == (s.size : Int)) = true := by simp; omega
      clear HK hlt hk2
      go_wp2_with (first
        | (go_at_call 22; (with_reducible refine (faultAt_any _ _ _).mono ?_); rintro e w4 ⟨rfl, hb4⟩; have HB4 : Hid (Below w2.heap.size w2 w4) := HB.out.trans (hb4.mono HB.out.size); obtain ⟨Y0, Y1, -, -, HW4'⟩ := HX.out w4 HB4.out; have HW4 : Hid (Below w.heap.size w w4) := HW4'; have HY0 : Hid (Bx w4 w.heap.size #[.int .u8 0, .int .i64 0, .int .i64 0] 50) := Y0; have HY1 : Hid (Bx w4 (w.heap.size + 1) #[.int .i64 0, .int .i64 0, .int .i64 0] 26) := Y1; obtain ⟨z0, z1, z2, z3, z4, z5, zf, zh⟩ := two_of Y0 Y1; have f0 := zf 0; have f1 := zf 1; have f2 := zf 2; have h0 := zh 0; have h1 := zh 1; have h2 := zh 2; clear hb4 HW4' Y0 Y1 zf zh))
      obtain ⟨r0, r1, r2, r3, r4, r5⟩ := two_boxes HY0.out HY1.out (.int .u8 0) (.int .i64 0) (.int .i64 0) (.int .i64 22) (.int .i64 0) (.int .i64 (p : Int))
      refine bodyPost_ret (v := .tuple #[.agg #[.int .u8 0, .int .i64 0, .int .i64 0], .agg #[.int .i64 22, .int .i64 0, .int .i64 (p : Int)]]) (by simp [results, Tryz.results57, go_sem, r0, r1, r2, r3, r4, r5]) rfl ⟨by rw [HR.out]; rfl, bel_two HW4.out (Nat.le_refl _)⟩
end Go.Proofs.YtmnbakalcpanlaaGreatDoor
