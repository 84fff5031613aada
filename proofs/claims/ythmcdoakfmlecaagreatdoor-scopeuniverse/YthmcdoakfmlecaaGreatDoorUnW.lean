import Derived.Test.YthmcdoakfmlecaaGreatDoorUn
import Derived.Test.YthmcdoakfmlecaaGreatDoorBxs
namespace Go.Proofs.YthmcdoakfmlecaaGreatDoor
open Go.ChangeShapes Go.WideShapes Go.ChangeAt Go.RowKit Go.Deep
set_option linter.unusedVariables false

/-- the two lists of the universe's names, as they lie -/
structure UniAt (v : World) (a : Addr) (cap : Nat) : Prop where
  head : v.cell? ⟨0, 0, none⟩ = some (.slice (some a) 15 cap)
  cells : ∀ i, i < 15 → v.cell? (a.add i) = some (.string ⟨(uni.getD i []).toArray⟩)
  tab : ∀ i, i < 15 → v.cell? ⟨1, i, none⟩ = some (.string ⟨(uni.getD i []).toArray⟩)
theorem UniAt.below {v w : World} {a : Addr} {cap : Nat} (h : UniAt v a cap) (hb : Below v.heap.size v w) : UniAt w a cap :=
  ⟨(hb.cell (ucell_lt h.head)).trans h.head, fun i hi => (hb.cell (ucell_lt (h.cells i hi))).trans (h.cells i hi), fun i hi => (hb.cell (ucell_lt (h.tab i hi))).trans (h.tab i hi)⟩

set_option maxRecDepth 1000000 in
set_option maxHeartbeats 2000000 in
theorem universe_any (x : ByteArray) (a : Addr) (cap : Nat) (v : World) (h : UniAt v a cap) (R : Int) (hR : ixF x.data.toList 0 uni = R) :
    Calls Tryz.prog 4 #[.string x] v fun e w' => e = .returned (.int .i64 R) ∧ Below v.heap.size v w' := by
  have HI : Hid (∀ w, UniAt w a cap → Calls Tryz.prog 11 #[.slice (some a) 15 cap, .string x] w fun e w' => e = .returned (.int .i64 R) ∧ Below w.heap.size w w') := fun w hw => index_any x a cap w hw.cells R hR
  have hh := h.head
  have H : Hid (UniAt v a cap) := h
  clear h hR
  go_enter Tryz.func4, Tryz.ntmps4
  go_wp2_with (go_at_call 11; (refine (HI.out _ H.out).mono ?_); rintro e w1 ⟨rfl, hb1⟩; have HB1 : Hid (Below v.heap.size v w1) := hb1; clear hb1)
  go_ret
  exact ⟨rfl, HB1.out⟩

set_option maxRecDepth 1000000 in
set_option maxHeartbeats 2000000 in
theorem runiverse_any (x : ByteArray) (a : Addr) (cap : Nat) (v : World) (h : UniAt v a cap) (R : Int) (hR : ixF x.data.toList 0 uni = R) :
    Calls Tryz.prog 5 #[.string x] v fun e w' => e = .returned (.int .i64 R) ∧ Below v.heap.size v w' := by
  have HR : Hid (ixF x.data.toList 0 uni = R) := hR
  have HC : Hid (UniAt v a cap) := h
  clear hR h
  go_enter Tryz.func5, Tryz.ntmps5
  go_wp2
  go_loopg [3] 15 (fun gk sk wr => ∃ (k : Nat), gk = 15 - k ∧ k ≤ 15 ∧ sk = .int .i64 (k : Int) ∧ ixF x.data.toList k (uni.drop k) = R ∧ Below v.heap.size v wr)
  case atStart => exact ⟨0, rfl, Nat.zero_le _, rfl, HR.out, Below.refl _ _⟩
  case round =>
    obtain ⟨k, rfl, hk, rfl, hix, hbel⟩ := hrel
    have HB : Hid (Below v.heap.size v wr) := hbel
    have HI : Hid (ixF x.data.toList k (uni.drop k) = R) := hix
    clear hbel hix HR
    by_cases hlt : k < 15
    · have hlt' : (k : Int) < 15 := by omega
      obtain ⟨y, hy⟩ : ∃ y, uni[k]? = some y := ⟨uni[k]'(by have : uni.length = 15 := rfl; omega), List.getElem?_eq_getElem _⟩
      have hyd : uni.getD k [] = y := by rw [List.getD, hy]; rfl
      have hc : wr.cell? ⟨1, k, none⟩ = some (.string ⟨y.toArray⟩) := by
        rw [(HC.out.below HB.out).tab k hlt, ← hyd]
      by_cases he : x.data.toList = y
      · have t1 : (y == x.toList) = true := by rw [beq_iff_eq, ByteArray.toList_eq]; exact he.symm
        have HZ : Hid (R = (k : Int)) := by unfold Hid; rw [← HI.out, ix_at hy, if_pos he]
        clear HI he hy hyd
        go_wp2
        go_ret
        exact ⟨by rw [HZ.out]; rfl, HB.out⟩
      · have t1 : (y == x.toList) = false := by rw [beq_eq_false_iff_ne, ByteArray.toList_eq]; exact fun h => he h.symm
        have HZ : Hid (ixF x.data.toList (k + 1) (uni.drop (k + 1)) = R) := by unfold Hid; rw [← HI.out, ix_at hy, if_neg he]
        clear HI he hy hyd
        go_wp2
        go_roundg (15 - (k + 1))
        case measure => omega
        case rel => exact ⟨k + 1, rfl, by omega, by go_num, HZ.out, HB.out⟩
    · have hlt' : ¬ (k : Int) < 15 := by omega
      have HZ : Hid (R = -1) := by
        unfold Hid
        rw [← HI.out, List.drop_eq_nil_of_le (by have : uni.length = 15 := rfl; omega), ixF]
      clear HI
      go_wp2
      go_ret
      exact ⟨by rw [HZ.out]; rfl, HB.out⟩

set_option maxRecDepth 1000000 in
set_option maxHeartbeats 2000000 in
theorem nothing_any (v : World) : Calls Tryz.prog 38 #[] v fun e w' => e = .returned (.agg #[.bool false, .int .i64 (-1), .int .i64 (-1)]) ∧ Below v.heap.size v w' := by
  go_enter Tryz.func38, Tryz.ntmps38
  go_wp2
  refine bodyPost_ret (v := .agg #[.bool false, .int .i64 (-1), .int .i64 (-1)]) (by simp [results, Tryz.results38, go_sem]) rfl ⟨rfl, ?_⟩
  exact (Below.refl _ _).alloc (Nat.le_refl _) _

/-- a piece's box -/
def Pc (w : World) (g : Nat) (b : Bool) (i j : Int) : Prop := w.heap[g]? = some (.cells #[.bool b, .int .i64 i, .int .i64 j] 65 (0, 0))
theorem Pc.c0 {w : World} {g : Nat} {b : Bool} {i j : Int} (h : Pc w g b i j) : w.cell? ⟨g, 0, none⟩ = some (.bool b) := by simp [World.cell?, show w.heap[g]? = _ from h]
theorem Pc.c1 {w : World} {g : Nat} {b : Bool} {i j : Int} (h : Pc w g b i j) : w.cell? ⟨g, 1, none⟩ = some (.int .i64 i) := by simp [World.cell?, show w.heap[g]? = _ from h]
theorem Pc.c2 {w : World} {g : Nat} {b : Bool} {i j : Int} (h : Pc w g b i j) : w.cell? ⟨g, 2, none⟩ = some (.int .i64 j) := by simp [World.cell?, show w.heap[g]? = _ from h]
theorem Pc.free {w : World} {g : Nat} {b : Bool} {i j : Int} (h : Pc w g b i j) (k : Nat) : w.frozen? ⟨g, k, none⟩ = false := by simp [World.frozen?, show w.heap[g]? = _ from h]
theorem Pc.set0 {w : World} {g : Nat} {b : Bool} {i j : Int} (h : Pc w g b i j) (x : Bool) : Pc (w.setCell ⟨g, 0, none⟩ (.bool x)) g x i j := heap_setCell_same w g 0 _ _ (.bool x) h
theorem Pc.set1 {w : World} {g : Nat} {b : Bool} {i j : Int} (h : Pc w g b i j) (x : Int) : Pc (w.setCell ⟨g, 1, none⟩ (.int .i64 x)) g b x j := heap_setCell_same w g 1 _ _ (.int .i64 x) h
theorem Pc.set2 {w : World} {g : Nat} {b : Bool} {i j : Int} (h : Pc w g b i j) (x : Int) : Pc (w.setCell ⟨g, 2, none⟩ (.int .i64 x)) g b i x := heap_setCell_same w g 2 _ _ (.int .i64 x) h
theorem Pc.lt {w : World} {g : Nat} {b : Bool} {i j : Int} (h : Pc w g b i j) : g < w.heap.size := ucell_lt h.c0
theorem Pc.below {w w' : World} {g B : Nat} {b : Bool} {i j : Int} (h : Pc w g b i j) (hb : Below B w w') (hg : g < B) : Pc w' g b i j := (hb.block g hg).trans h

set_option maxRecDepth 1000000 in
set_option maxHeartbeats 2000000 in
theorem piece_nil (i j : Int) (v : World) : Calls Tryz.prog 18 #[.pointer none, .agg #[.int .i64 i, .int .i64 j]] v fun e w' => e = .returned (.agg #[.bool false, .int .i64 (-1), .int .i64 (-1)]) ∧ Below v.heap.size v w' := by
  go_enter Tryz.func18, Tryz.ntmps18
  obtain ⟨w0, hw0⟩ : ∃ w0, ((v.alloc (.cells #[.int .i64 i, .int .i64 j] 23)).alloc (.cells #[.bool false, .int .i64 0, .int .i64 0] 65)) = w0 := ⟨_, rfl⟩
  have HW : Hid (Below v.heap.size v w0) := by
    unfold Hid
    rw [← hw0]
    exact ((Below.refl _ _).alloc (Nat.le_refl _) _).alloc (by simp) _
  have HP : Hid (Pc w0 (v.heap.size + 1) false 0 0) := by
    unfold Hid
    rw [← hw0]
    have := heap_alloc_new (v.alloc (.cells #[.int .i64 i, .int .i64 j] 23)) (.cells #[.bool false, .int .i64 0, .int .i64 0] 65)
    rw [show (v.alloc (.cells #[.int .i64 i, .int .i64 j] 23)).heap.size = v.heap.size + 1 by simp] at this
    exact this
  obtain ⟨X, F, hX, hF, onto⟩ := class_of (fun x => Below w0.heap.size w0 x) (Below.refl _ w0)
  have HF : Hid (∀ y, Below w0.heap.size w0 (F y)) := hF
  have HOn : Hid (∀ x, Below w0.heap.size w0 x → ∃ y, x = F y) := fun x h => by obtain ⟨y, hy⟩ := onto x h; exact ⟨y, hy.symm⟩
  clear hF onto
  go_upto_region 1 with fail
  refine region_class F (by kernel_rfl) (by kernel_rfl) (by obtain ⟨x, hx⟩ := HOn.out _ (Below.refl _ _).drew; exact ⟨x, hx.symm⟩) ?_
  repeat (go_big_quiet_step (fail))
  refine wpQuiet_nil ?_
  rintro _ ⟨nq, rfl⟩
  have hfn := HF.out nq
  obtain ⟨w1, hV⟩ : ∃ w1, F nq = w1 := ⟨_, rfl⟩
  rw [hV] at hfn
  rw [hV]
  have HB1 : Hid (Below w0.heap.size w0 w1) := hfn
  clear HF HOn hV hfn hX
  go_wp2_with (go_at_call 38; (refine (nothing_any _).mono ?_); rintro e w2 ⟨rfl, hb2⟩; have HB2 : Hid (Below w1.heap.size w1 w2) := hb2; have P2 : Hid (Pc w2 (v.heap.size + 1) false 0 0) := (HP.out.below HB1.out HP.out.lt).below hb2 (HP.out.below HB1.out HP.out.lt).lt; clear hb2; have f0 := P2.out.free 0; have f1 := (P2.out.set0 false).free 1; have f2 := ((P2.out.set0 false).set1 (-1)).free 2; have b0 := P2.out.c0; have b1 := (P2.out.set0 false).c1; have b2 := ((P2.out.set0 false).set1 (-1)).c2)
  clear f0 f1 f2 b0 b1 b2
  have hbx := ((P2.out.set0 false).set1 (-1)).set2 (-1)
  have r0 := hbx.c0
  have r1 := hbx.c1
  have r2 := hbx.c2
  refine bodyPost_ret (v := .agg #[.bool false, .int .i64 (-1), .int .i64 (-1)]) (by simp [results, Tryz.results18, go_sem, r0, r1, r2]) rfl ⟨rfl, ?_⟩
  have hz := HW.out.size
  have hz1 := HB1.out.size
  have h2 : Below v.heap.size v w2 := (HW.out.trans (HB1.out.mono hz)).trans (HB2.out.mono (by omega))
  exact ((h2.setCell (p := ⟨v.heap.size + 1, 0, none⟩) (by show v.heap.size ≤ v.heap.size + 1; omega) _).setCell (p := ⟨v.heap.size + 1, 1, none⟩) (by show v.heap.size ≤ v.heap.size + 1; omega) _).setCell (p := ⟨v.heap.size + 1, 2, none⟩) (by show v.heap.size ≤ v.heap.size + 1; omega) _
end Go.Proofs.YthmcdoakfmlecaaGreatDoor
