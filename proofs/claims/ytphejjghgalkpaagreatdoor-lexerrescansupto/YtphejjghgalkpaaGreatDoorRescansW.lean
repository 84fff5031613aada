import Derived.Test.YtphejjghgalkpaaGreatDoorRs8
import Derived.Deep.RegionHeld3
namespace Go.Proofs.YtphejjghgalkpaaGreatDoor
open Go.ChangeShapes Go.WideShapes Go.ChangeAt Go.RowKit Go.Maps Go.WideMaps
set_option linter.unusedVariables false
set_option linter.unusedSimpArgs false

theorem rcut_len (s : ByteArray) (hs : s.size ≤ 4294967280) : (rcut s).ls.length ≤ 281474976710656 := by
  unfold rcut
  split
  · have := wau_max (s := s) hs; simp only; omega
  · simp
theorem rsc_len (s : ByteArray) (xs : List Tk) (ef et : Int) (n : ByteArray) (hs : s.size ≤ 2147483640) (hn : n.size ≤ 2147483640) : (rsc s xs ef et n).ls.length ≤ 281474976710656 := by
  unfold rsc
  split
  · simp
  · split
    · simp
    · rename_i h1 h2
      refine rcut_len _ ?_
      rw [edE_size _ _ _ _ (by omega) (by omega)]
      omega
theorem cell_heap {w w' : World} {a : Addr} (h : w'.heap[a.block]? = w.heap[a.block]?) : w'.cell? a = w.cell? a := by
  unfold World.cell?
  rw [h]
/-- a list lies where nothing was written -/
theorem LiesA.but {w w' : World} {g : Nat} {a : Option Addr} {xs : List Tk} (h : LiesA w a xs) (hs : w.heap.size ≤ w'.heap.size) (hk : ∀ k, k ≠ g → w'.heap[k]? = w.heap[k]?) (hg : ∀ b o, a = some ⟨b, o, none⟩ → xs ≠ [] → b ≠ g) : LiesA w' a xs := by
  rcases h with h | ⟨b, o, rfl, hl⟩
  · exact .inl h
  · by_cases hx : xs = []
    · exact .inl hx
    · refine .inr ⟨b, o, rfl, Nat.lt_of_lt_of_le hl.1 hs, fun j u hj => ?_⟩
      exact (cell_heap (hk b (hg b o rfl hx))).trans (hl.2 j u hj)
theorem putB {w : World} {g i : Nat} {v0 v1 v2 : Value} (k : Nat) (h : k ≠ g) : (((w.setCell ⟨g, i * 3, none⟩ v0).setCell ⟨g, i * 3 + 1, none⟩ v1).setCell ⟨g, i * 3 + 2, none⟩ v2).heap[k]? = w.heap[k]? := by
  rw [Below.heap_setCell _ _ _ _ h, Below.heap_setCell _ _ _ _ h, Below.heap_setCell _ _ _ _ h]
theorem flat_setT : ∀ (cs : List Tk) (i : Nat) (e : Tk), i < cs.length → (((flat cs).set (i * 3) (.int .u8 e.k)).set (i * 3 + 1) (.int .i64 e.f)).set (i * 3 + 2) (.int .i64 e.t) = flat (cs.set i e)
  | [], i, e, h => by simp at h
  | x :: r, 0, e, h => by simp [flat, Rw.cs]
  | x :: r, i + 1, e, h => by
    have ih := flat_setT r i e (by simpa using h)
    rw [List.set_cons_succ, flat_cons, flat_cons, ← ih]
    simp only [Rw.cs, show (i + 1) * 3 = i * 3 + 1 + 1 + 1 by omega, show i * 3 + 1 + 1 + 1 + 1 = i * 3 + 1 + 1 + 1 + 1 from rfl, List.cons_append, List.nil_append, List.set_cons_succ]
theorem put3 {w0 w : World} {B g n c T i : Nat} {zs : List Tk} {e : Tk} (h : w.ownsRow B T 3 (.slice (some ⟨g, 0, none⟩) n c) n (flat zs)) (he : zs[i]? = some e) (u : Tk) (hb : Below B w0 w) (hg : B ≤ g) :
    w.frozen? ⟨g, i * 3, none⟩ = false ∧ (w.setCell ⟨g, i * 3, none⟩ (.int .u8 u.k)).frozen? ⟨g, i * 3 + 1, none⟩ = false ∧ ((w.setCell ⟨g, i * 3, none⟩ (.int .u8 u.k)).setCell ⟨g, i * 3 + 1, none⟩ (.int .i64 u.f)).frozen? ⟨g, i * 3 + 2, none⟩ = false ∧
    w.cell? ⟨g, i * 3, none⟩ = some (.int .u8 e.k) ∧ (w.setCell ⟨g, i * 3, none⟩ (.int .u8 u.k)).cell? ⟨g, i * 3 + 1, none⟩ = some (.int .i64 e.f) ∧ ((w.setCell ⟨g, i * 3, none⟩ (.int .u8 u.k)).setCell ⟨g, i * 3 + 1, none⟩ (.int .i64 u.f)).cell? ⟨g, i * 3 + 2, none⟩ = some (.int .i64 e.t) ∧
    (((w.setCell ⟨g, i * 3, none⟩ (.int .u8 u.k)).setCell ⟨g, i * 3 + 1, none⟩ (.int .i64 u.f)).setCell ⟨g, i * 3 + 2, none⟩ (.int .i64 u.t)).ownsRow B T 3 (.slice (some ⟨g, 0, none⟩) n c) n (flat (zs.set i u)) ∧
    Below B w0 (((w.setCell ⟨g, i * 3, none⟩ (.int .u8 u.k)).setCell ⟨g, i * 3 + 1, none⟩ (.int .i64 u.f)).setCell ⟨g, i * 3 + 2, none⟩ (.int .i64 u.t)) := by
  have hil : i < zs.length := by
    rcases Nat.lt_or_ge i zs.length with h | h
    · exact h
    · rw [List.getElem?_eq_none h] at he; cases he
  obtain ⟨d0, d1, d2⟩ := (Lies.own h).tk (Below.refl _ _) he
  simp only [Nat.zero_add] at d0 d1 d2
  have hO1 := (h.stored (i * 3) (.int .u8 u.k)).1
  have hO2 := (hO1.stored (i * 3 + 1) (.int .i64 u.f)).1
  have hO3 := (hO2.stored (i * 3 + 2) (.int .i64 u.t)).1
  refine ⟨h.frozenAt _, hO1.frozenAt _, hO2.frozenAt _, d0, ?_, ?_, ?_, ?_⟩
  · rw [World.cell?_setCell_other _ _ _ _ (by intro h; simp only [Addr.mk.injEq] at h; omega)]; exact d1
  · rw [World.cell?_setCell_other _ _ _ _ (by intro h; simp only [Addr.mk.injEq] at h; omega), World.cell?_setCell_other _ _ _ _ (by intro h; simp only [Addr.mk.injEq] at h; omega)]; exact d2
  · rw [← flat_setT zs i u hil]; exact hO3
  · exact ((hb.setCell (p := ⟨g, i * 3, none⟩) hg _).setCell (p := ⟨g, i * 3 + 1, none⟩) hg _).setCell (p := ⟨g, i * 3 + 2, none⟩) hg _
set_option maxRecDepth 1000000 in
set_option maxHeartbeats 16000000 in
theorem lexerRescans_walk (s : ByteArray) (a : Option Addr) (c : Nat) (xs : List Tk) (ef et : Int) (es : ByteArray) (hB : s.size ≤ 1048576) (hX : xs.length ≤ 1048576) (hN : es.size ≤ 1048576) (w : World) (hxa : LiesA w a xs) (hna : a = none → xs.length = 0 ∧ c = 0) (hS : Spl w) (hT : Lt w) (hM : MaxL w) :
    Calls Tryz.prog 3 #[.agg #[.string s, .slice a xs.length c, .int .i64 ef, .int .i64 et, .string es]] w fun e w' => e = .returned (.bool true) ∧ Below w.heap.size w w' := by
  obtain ⟨w2, e2, hb2, hs2, B2⟩ := bx1 w #[.string s, .slice a xs.length c, .int .i64 ef, .int .i64 et, .string es] 26
  have HB2 : Hid (Below w.heap.size w w2) := hb2
  have HX2 : Hid (∀ v, Below w2.heap.size w2 v → Bx v w.heap.size #[.string s, .slice a xs.length c, .int .i64 ef, .int .i64 et, .string es] 26 ∧ Below w.heap.size w v ∧ LiesA v a xs) := fun v h => ⟨B2.below h B2.lt, hb2.trans (h.mono hb2.size), hxa.below (hb2.trans (h.mono hb2.size))⟩
  have HRM : Hid (Calls Tryz.prog 6 #[.slice a xs.length c] w2 fun e w' => ∃ g c', e = .returned (.tuple #[.slice (some ⟨g, 0, none⟩) xs.length c', .slice (some ⟨g, 0, none⟩) (xs.length + 3) c']) ∧ xs.length + 3 ≤ c' ∧ w'.ownsRow w2.heap.size 39 3 (.slice (some ⟨g, 0, none⟩) (xs.length + 3) c') (xs.length + 3) (flat (xs ++ mk3)) ∧ Below w2.heap.size w2 w') := roomy_any a c xs w2 (hxa.below hb2) hna hX
  have k0 := B2.cell 0
  have k1 := B2.cell 1
  have kz := B2.lt
  simp at k0 k1
  have hlen := rsc_len s xs ef et es (by omega) (by omega)
  have HRE : Hid (∀ (v : World) (a' : Option Addr) (c' : Nat), Below w.heap.size w v → LiesA v a' xs → Calls Tryz.prog 7 #[.string s, .slice a' xs.length c', .agg #[.int .i64 ef, .int .i64 et, .string es]] v fun e w' => ∃ a' c', e = .returned (.tuple #[.string (rsc s xs ef et es).tx, .slice a' (rsc s xs ef et es).ls.length c', .agg #[.int .i64 ((rsc s xs ef et es).y : Int), .int .i64 0, .int .i64 ((rsc s xs ef et es).z : Int)]]) ∧ w'.ownsRow v.heap.size 39 3 (.slice a' (rsc s xs ef et es).ls.length c') (rsc s xs ef et es).ls.length (flat (rsc s xs ef et es).ls) ∧ Below v.heap.size v w') := fun v a' c' hv h => rescan_all s a' c' xs ef et es (by omega) (by omega) (by omega) v h (hS.below hv) (hT.below hv) (hM.below hv)
  have HRR : Hid (∀ (v : World), Below w.heap.size w v → LiesA v a xs → Calls Tryz.prog 8 #[.string s, .slice a xs.length c, .agg #[.int .i64 ef, .int .i64 et, .string es]] v fun e w' => ∃ a' c', e = .returned (.tuple #[.string (rsc s xs ef et es).tx, .slice a' (rsc s xs ef et es).ls.length c', .int .i64 ((rsc s xs ef et es).y : Int), .int .i64 ((rsc s xs ef et es).z : Int)]) ∧ w'.ownsRow v.heap.size 39 3 (.slice a' (rsc s xs ef et es).ls.length c') (rsc s xs ef et es).ls.length (flat (rsc s xs ef et es).ls) ∧ Below v.heap.size v w') := fun v hv h => rRescan_any s a c xs ef et es (by omega) (by omega) (by omega) v h (hT.below hv)
  generalize (rsc s xs ef et es).ls = L at *
  generalize (rsc s xs ef et es).tx = T at *
  generalize (rsc s xs ef et es).y = Y at *
  generalize (rsc s xs ef et es).z = Zz at *
  clear hb2 hs2 B2 hxa hna hS hT hM
  go_enter Tryz.func3, Tryz.ntmps3
  go_wp2_with (first
    | (go_at_call 6; (with_reducible refine HRM.out.mono ?_); rintro e w4 ⟨g, c4, rfl, hc4, ho4, hb4⟩; have HO4 : Hid (w4.ownsRow w2.heap.size 39 3 (.slice (some ⟨g, 0, none⟩) (xs.length + 3) c4) (xs.length + 3) (flat (xs ++ mk3))) := ho4; have HW4 : Hid (Below w2.heap.size w2 w4) := hb4; obtain ⟨X4, hw4, hl4⟩ := HX2.out w4 hb4; have HB4 : Hid (Below w.heap.size w w4) := hw4; have HL4 : Hid (Lies w4 g 0 (xs ++ mk3)) := Lies.own ho4; have HA4 : Hid (LiesA w4 (some ⟨g, 0, none⟩) xs) := .inr ⟨g, 0, rfl, HL4.out.pre⟩; have y0 : w4.cell? ⟨w.heap.size, 0, none⟩ = some (.string s) := X4.cell 0; have y2 : w4.cell? ⟨w.heap.size, 2, none⟩ = some (.int .i64 ef) := X4.cell 2; have y3 : w4.cell? ⟨w.heap.size, 3, none⟩ = some (.int .i64 et) := X4.cell 3; have y4 : w4.cell? ⟨w.heap.size, 4, none⟩ = some (.string es) := X4.cell 4; have y9 := X4.lt; clear ho4 hb4 X4 hw4 hl4)
    | (go_at_call 7; (with_reducible refine (HRE.out _ _ _ HB4.out HA4.out).mono ?_); rintro e w5 ⟨a5, c5, rfl, ho5, hb5⟩; have HO5 : Hid (w5.ownsRow w4.heap.size 39 3 (.slice a5 L.length c5) L.length (flat L)) := ho5; have HW5 : Hid (Below w2.heap.size w2 (w5.alloc (.cells #[.int .i64 (Y : Int), .int .i64 0, .int .i64 (Zz : Int)] 31))) := (HW4.out.trans (hb5.mono HW4.out.size)).alloc (Nat.le_trans HW4.out.size hb5.size) _; have HB5 : Hid (Below w4.heap.size w4 w5) := hb5; obtain ⟨X5, hw5, hl5⟩ := HX2.out _ HW5.out; have HV5 := hidI hw5; have HL5 := hidI hl5; have z0 : (w5.alloc (.cells #[.int .i64 (Y : Int), .int .i64 0, .int .i64 (Zz : Int)] 31)).cell? ⟨w.heap.size, 0, none⟩ = some (.string s) := X5.cell 0; have z1 : (w5.alloc (.cells #[.int .i64 (Y : Int), .int .i64 0, .int .i64 (Zz : Int)] 31)).cell? ⟨w.heap.size, 1, none⟩ = some (.slice a xs.length c) := X5.cell 1; have z2 : (w5.alloc (.cells #[.int .i64 (Y : Int), .int .i64 0, .int .i64 (Zz : Int)] 31)).cell? ⟨w.heap.size, 2, none⟩ = some (.int .i64 ef) := X5.cell 2; have z3 : (w5.alloc (.cells #[.int .i64 (Y : Int), .int .i64 0, .int .i64 (Zz : Int)] 31)).cell? ⟨w.heap.size, 3, none⟩ = some (.int .i64 et) := X5.cell 3; have z4 : (w5.alloc (.cells #[.int .i64 (Y : Int), .int .i64 0, .int .i64 (Zz : Int)] 31)).cell? ⟨w.heap.size, 4, none⟩ = some (.string es) := X5.cell 4; have z9 : w.heap.size < w5.heap.size := Nat.lt_of_lt_of_le y9 hb5.size; clear ho5 hb5 X5 hw5 hl5)
    | (go_at_call 8; (with_reducible refine (HRR.out _ HV5.out HL5.out).mono ?_); rintro e w6 ⟨a6, c6, rfl, hl6, hb6⟩; have HLM6 : Hid (∀ b o, a6 = some ⟨b, o, none⟩ → L ≠ [] → b ≠ g) := (fun b o hb _ => by subst hb; have h1 := (hl6.lt b rfl).1; have h2 := (HO4.out.lt g rfl).2; have h3 := HB5.out.size; simp at h1; omega); have HL6 : Hid (LiesA w6 a6 L) := (by obtain ⟨a', c', e', h1, -⟩ := own_form' hl6; cases e'; exact h1); have HW6 : Hid (Below w2.heap.size w2 w6) := HW5.out.trans (hb6.mono HW5.out.size); have hb46 : Below w4.heap.size w4 w6 := (HB5.out.alloc HB5.out.size _).trans (hb6.mono (by have := HB5.out.size; simp; omega)); have HB46 := hidI hb46; have HG6 : Hid (Lies w6 g 0 (xs ++ mk3)) := HL4.out.below hb46 HL4.out.1; have P6 : Bx w6 w5.heap.size #[.int .i64 (Y : Int), .int .i64 0, .int .i64 (Zz : Int)] 31 := (Bx.new _ _ _).below hb6 (by simp); have HP6 := hidI P6; obtain ⟨X6, -, hl6a⟩ := HX2.out w6 HW6.out; have HLA6 : Hid (LiesA w6 a xs) := hl6a; have x1 : w6.cell? ⟨w.heap.size, 1, none⟩ = some (.slice a xs.length c) := X6.cell 1; have x9 := X6.lt; have HO6 : Hid (w6.ownsRow w4.heap.size 39 3 (.slice a5 L.length c5) L.length (flat L)) := ownsRow_below (HO5.out.alloc _) hb6 (Nat.le_refl _); have HGO6 : Hid (w6.ownsRow w2.heap.size 39 3 (.slice (some ⟨g, 0, none⟩) (xs.length + 3) c4) (xs.length + 3) (flat (xs ++ mk3))) := ownsRow_below HO4.out hb46 (Nat.le_refl _); clear hb6 hl6 hb46 P6 X6 hl6a)
    | (go_at_call 9; (with_reducible refine (untouched_any g c4 a c xs w6 HG6.out hc4 HLA6.out hX).mono ?_); rintro e w7 ⟨rfl, hb7⟩; have P7 := HP6.out.below hb7 HP6.out.lt; have p0 : w7.cell? ⟨w5.heap.size, 0, none⟩ = some (.int .i64 (Y : Int)) := P7.cell 0; have p1 : w7.cell? ⟨w5.heap.size, 1, none⟩ = some (.int .i64 0) := P7.cell 1; have p2 : w7.cell? ⟨w5.heap.size, 2, none⟩ = some (.int .i64 (Zz : Int)) := P7.cell 2; have p9 := P7.lt; have HW7 : Hid (Below w2.heap.size w2 w7) := HW6.out.trans (hb7.mono HW6.out.size); have HO7 : Hid (w7.ownsRow w4.heap.size 39 3 (.slice a5 L.length c5) L.length (flat L)) := ownsRow_below HO6.out hb7 (Nat.le_refl _); have HGO7 : Hid (w7.ownsRow w2.heap.size 39 3 (.slice (some ⟨g, 0, none⟩) (xs.length + 3) c4) (xs.length + 3) (flat (xs ++ mk3))) := ownsRow_below HGO6.out hb7 (Nat.le_refl _); have HL7 : Hid (LiesA w7 a6 L) := HL6.out.below hb7; clear hb7 P7))
  have HGL : Hid (w2.heap.size ≤ g ∧ g < w4.heap.size) := ⟨(HO4.out.lt g rfl).1, (HO4.out.lt g rfl).2⟩
  have HLL : Hid (LiesA w7 a5 L ∧ ∀ b o, a5 = some ⟨b, o, none⟩ → L ≠ [] → b ≠ g) := by
    obtain ⟨a', c', e', h1, -⟩ := own_form' HO7.out
    cases e'
    refine ⟨h1, fun b o hb hL => ?_⟩
    subst hb
    have := (HO7.out.lt b rfl).1
    have := HGL.out.2
    omega
  have HLM : Hid (∀ b o, a6 = some ⟨b, o, none⟩ → L ≠ [] → b ≠ g) := HLM6.out
  clear HO4 HO5 HO6 HGO6 HB5 HB46 HL4 HA4 HL5 HV5 HW5 HG6 HLA6 HP6 HRM HRE HRR p0 p1 p2 p9 x1 x9 z0 z1 z2 z3 z4 z9 y0 y2 y3 y4 y9 k0 k1 kz
  go_loopw [60] (fun si wr => ∃ (i : Nat) (zs : List Tk), i ≤ xs.length + 3 ∧ si = .int .i64 (i : Int) ∧ zs.length = xs.length + 3 ∧ wr.ownsRow w2.heap.size 39 3 (.slice (some ⟨g, 0, none⟩) (xs.length + 3) c4) (xs.length + 3) (flat zs) ∧ Below w2.heap.size w2 wr ∧ w7.heap.size ≤ wr.heap.size ∧ (∀ k, k ≠ g → wr.heap[k]? = w7.heap[k]?)) (fun si _ => xs.length + 3 - (intOf si).toNat)
  case atStart => exact ⟨0, xs ++ mk3, Nat.zero_le _, rfl, by simp [mk3], HGO7.out, HW7.out, Nat.le_refl _, fun _ _ => rfl⟩
  case round =>
    obtain ⟨i, zs, hi, rfl, hzl, hown, hbel, hsz, hkp⟩ := hrel
    have HR : Hid (wr.ownsRow w2.heap.size 39 3 (.slice (some ⟨g, 0, none⟩) (xs.length + 3) c4) (xs.length + 3) (flat zs)) := hown
    have HB : Hid (Below w2.heap.size w2 wr) := hbel
    have HKP : Hid (w7.heap.size ≤ wr.heap.size ∧ ∀ k, k ≠ g → wr.heap[k]? = w7.heap[k]?) := ⟨hsz, hkp⟩
    have hgb := (hown.lt g rfl)
    clear hown hbel hsz hkp
    by_cases hlt : i < xs.length + 3
    · have hlt' : (i : Int) < (xs.length : Int) + 3 := by omega
      obtain ⟨e, he⟩ : ∃ e, zs[i]? = some e := ⟨_, List.getElem?_eq_getElem (by omega)⟩
      obtain ⟨f0, f1, f2, d0, d1, d2, hO3, hB3⟩ := put3 HR.out he ⟨0, 99, 0⟩ HB.out hgb.1
      have HO3 := hidI hO3
      have HB3 := hidI hB3
      have HK3 : Hid (∀ v0 v1 v2 : Value, w7.heap.size ≤ (((wr.setCell ⟨g, i * 3, none⟩ v0).setCell ⟨g, i * 3 + 1, none⟩ v1).setCell ⟨g, i * 3 + 2, none⟩ v2).heap.size ∧ ∀ k, k ≠ g → (((wr.setCell ⟨g, i * 3, none⟩ v0).setCell ⟨g, i * 3 + 1, none⟩ v1).setCell ⟨g, i * 3 + 2, none⟩ v2).heap[k]? = w7.heap[k]?) := fun v0 v1 v2 => ⟨by simpa using HKP.out.1, fun k hk => (putB k hk).trans (HKP.out.2 k hk)⟩
      clear hO3 hB3
      go_wp2
      exact ⟨⟨i + 1, _, hlt, by simp, by simp [hzl], HO3.out, HB3.out, (HK3.out _ _ _).1, (HK3.out _ _ _).2⟩, by simp [intOf]; omega⟩
    · have hge : ¬ (i : Int) < (xs.length : Int) + 3 := by omega
      have HS : Hid (Calls Tryz.prog 10 #[.slice a5 L.length c5, .slice a6 L.length c6] wr fun e w' => e = .returned (.bool true) ∧ Below wr.heap.size wr w') := same_tokens a5 a6 c5 c6 L wr (HLL.out.1.but HKP.out.1 HKP.out.2 HLL.out.2) (HL7.out.but HKP.out.1 HKP.out.2 HLM.out) (by unfold maxLen; omega)
      go_wp2_with (go_at_call 10; (with_reducible refine HS.out.mono ?_); rintro e w9 ⟨rfl, hb9⟩; have HB9 : Hid (Below w2.heap.size w2 w9) := HB.out.trans (hb9.mono HB.out.size); clear hb9)
      go_ret
      exact ⟨rfl, HB2.out.trans (HB9.out.mono HB2.out.size)⟩
end Go.Proofs.YtphejjghgalkpaaGreatDoor
