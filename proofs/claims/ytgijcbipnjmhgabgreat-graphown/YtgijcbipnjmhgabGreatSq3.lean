import Derived.Test.YtgijcbipnjmhgabGreatSq0
import Derived.Test.YtgijcbipnjmhgabGreatSr5
import Derived.Test.YtgijcbipnjmhgabGreatSr7
namespace Go.Proofs.YtgijcbipnjmhgabGreat
open Go.ChangeShapes Go.WideShapes Go.ChangeAt Go.RowKit
set_option linter.unusedVariables false
set_option linter.unusedSimpArgs false

set_option maxRecDepth 1000000 in
set_option maxHeartbeats 2000000 in
theorem insertS_any (B g n c a b : Nat) (xs : List Hn) (w : World) (h : Row B 21 g n c w xs) (hab : b ≤ n) (ha : a ≤ n) (hn : n ≤ 70368744177664) :
    Calls Tryz.prog 91 #[.slice (some ⟨g, 0, none⟩) n c, .int .i64 (a : Int), .int .i64 (b : Int)] w fun e w' => (∃ x, e = .returned x) ∧ ∃ ys, arr ys = Go.Sort.insertionSort ltI (arr xs) a b ∧ Row B 21 g n c w' ys ∧ One g w w' := by
  have HR : Hid (Row B 21 g n c w xs) := h
  clear h
  go_enter Tryz.func91, Tryz.ntmps91
  go_wp2
  go_loopg [6] (b - (a + 1)) (fun gk si wr => ∃ (i : Nat) (ys : List Hn), gk = b - i ∧ a + 1 ≤ i ∧ (i ≤ b ∨ i = a + 1) ∧ si = .int .i64 (i : Int) ∧ Go.Sort.insOuter ltI a b i (arr ys) = Go.Sort.insertionSort ltI (arr xs) a b ∧ Row B 21 g n c wr ys ∧ One g w wr)
  case atStart => exact ⟨a + 1, xs, rfl, Nat.le_refl _, .inr rfl, by go_num, rfl, HR.out, One.refl _ _⟩
  case round =>
    obtain ⟨i, ys, rfl, hai, hib, rfl, hp, hR, hO⟩ := hrel
    clear HR
    have HR : Hid (Row B 21 g n c wr ys) := hR
    have HP : Hid (Go.Sort.insOuter ltI a b i (arr ys) = Go.Sort.insertionSort ltI (arr xs) a b) := hp
    have HO1 : Hid (One g w wr) := hO
    clear hR hp hO
    by_cases hlt : i < b
    · have hlt' : (i : Int) < (b : Int) := by omega
      go_wp2
      obtain ⟨wo, rfl⟩ : ∃ wo, wo = wr := ⟨_, rfl⟩
      go_loopg [7] i (fun gj sj wj => ∃ (j : Nat) (zs : List Hn), gj = j ∧ j ≤ i ∧ sj = .int .i64 (j : Int) ∧ Go.Sort.insOuter ltI a b (i + 1) (Go.Sort.insInner ltI a j (arr zs)) = Go.Sort.insertionSort ltI (arr xs) a b ∧ Row B 21 g n c wj zs ∧ One g w wj)
      case atStart => exact ⟨i, ys, rfl, Nat.le_refl _, rfl, by rw [← ins_open (by omega)]; exact HP.out, HR.out, HO1.out⟩
      case round =>
        obtain ⟨j, zs, hgj, hj, rfl, hp, hR, hO⟩ := hrel
        clear HR HP HO1
        have HR : Hid (Row B 21 g n c wr zs) := hR
        have HP : Hid (Go.Sort.insOuter ltI a b (i + 1) (Go.Sort.insInner ltI a j (arr zs)) = Go.Sort.insertionSort ltI (arr xs) a b) := hp
        have HO1 : Hid (One g w wr) := hO
        have hzl := hR.len
        clear hR hp hO
        obtain ⟨X, F, hX, hF, onto⟩ := class_of (fun v => Below wr.heap.size wr v) (Below.refl _ wr)
        have HF : Hid (∀ y, Below wr.heap.size wr (F y)) := hF
        have HO : Hid (∀ v, Below wr.heap.size wr v → ∃ x, v = F x) := fun v h => by obtain ⟨x, hx⟩ := onto v h; exact ⟨x, hx.symm⟩
        by_cases hja : a < j
        · have hja' : (a : Int) < (j : Int) := by omega
          obtain ⟨x, hx⟩ : ∃ x, zs[j]? = some x := ⟨_, List.getElem?_eq_getElem (by omega)⟩
          obtain ⟨y, hy⟩ : ∃ y, zs[j - 1]? = some y := ⟨_, List.getElem?_eq_getElem (by omega)⟩
          have cx : ∀ q, (F q).cell? ⟨g, j, none⟩ = some (.int .i32 x.v) := fun q => (HR.out.below (hF q)).get hx
          have cy : ∀ q, (F q).cell? ⟨g, j - 1, none⟩ = some (.int .i32 y.v) := fun q => (HR.out.below (hF q)).get hy
          have HX : Hid (zs[j]? = some x ∧ zs[j - 1]? = some y) := ⟨hx, hy⟩
          have m1 : IntKind.i64.wrap ((j : Int) - 1) = ((j - 1 : Nat) : Int) := by rw [IntWalk.i64_in _ ⟨by omega, by omega⟩]; omega
          have h1 : (j : Int) < (n : Int) := by omega
          have h2 : ((j - 1 : Nat) : Int) < (n : Int) := by omega
          clear hx hy hF onto hzl
          go_upto_region 4 with fail
          refine region_class F (by kernel_rfl) (by kernel_rfl) (by obtain ⟨x, hx⟩ := HO.out _ (Below.refl _ _).drew; exact ⟨x, hx.symm⟩) ?_
          repeat (go_big_quiet_step (first | (go_at_call 97; with_reducible refine (less_any x.v y.v _).mono ?_; rintro e z5 ⟨rfl, rfl⟩; exact ⟨rfl, HO.out _ (HF.out _)⟩)))
          refine wpQuiet_nil ?_
          rintro _ ⟨nq, rfl⟩
          obtain ⟨z0, hz0⟩ : ∃ z, F nq = z := ⟨_, rfl⟩
          have HZB : Hid (Below wr.heap.size wr z0) := hz0 ▸ HF.out nq
          rw [hz0]
          have RZ : Hid (Row B 21 g n c z0 zs) := HR.out.below HZB.out
          have OZ : Hid (One g w z0) := HO1.out.trans (One.of HZB.out (Nat.le_of_lt HR.out.lt))
          clear hz0 HF HO cx cy HR HO1
          by_cases hxy : x.v < y.v
          · rw [show decide (x.v < y.v) = true from decide_eq_true hxy]
            go_upto_region 6 with fail
            have HSr : z0.cell? ⟨g, j - 1, none⟩ = some (.int .i32 y.v) ∧ z0.cell? ⟨g, j, none⟩ = some (.int .i32 x.v) := ⟨RZ.out.get HX.out.2, RZ.out.get HX.out.1⟩
            obtain ⟨cy, cx⟩ := HSr
            have f1 := RZ.out.free j
            have f2 := RZ.out.free (j - 1)
            have hne : j - 1 ≠ j := by omega
            go_big_region
            obtain ⟨z1, hz1⟩ : ∃ z, ((z0.setCell ⟨g, j, none⟩ (.int .i32 y.v)).setCell ⟨g, j - 1, none⟩ (.int .i32 x.v)).drew = z := ⟨_, rfl⟩
            rw [hz1]
            have R1 : Hid (Row B 21 g n c z1 (swp zs j (j - 1) x y)) := by unfold Hid; rw [← hz1]; exact ((RZ.out.set j y).set (j - 1) x).below (Below.refl _ _).drew
            have O1 : Hid (One g w z1) := by unfold Hid; rw [← hz1]; exact ((OZ.out.trans (One.set g j _ _)).trans (One.set g (j - 1) _ _)).trans (One.of (Below.refl _ _).drew (by have := RZ.out.lt; simp; omega))
            have P1 : Hid (Go.Sort.insOuter ltI a b (i + 1) (Go.Sort.insInner ltI a (j - 1) (arr (swp zs j (j - 1) x y))) = Go.Sort.insertionSort ltI (arr xs) a b) := by unfold Hid; rw [← ins_on HX.out.1 HX.out.2 (by omega) (by omega)]; exact HP.out
            clear hz1 cx cy f1 f2
            go_wp2
            go_roundg (j - 1)
            case measure => omega
            case rel => exact ⟨j - 1, _, rfl, by omega, rfl, P1.out, R1.out, O1.out⟩
          · rw [show decide (x.v < y.v) = false from decide_eq_false hxy]
            go_wp2
            go_roundg (b - (i + 1))
            case measure => omega
            case rel => exact ⟨i + 1, zs, rfl, by omega, .inl (by omega), by go_num, by rw [← HP.out, ins_off HX.out.1 HX.out.2 (by omega)], RZ.out, OZ.out⟩
        · have hja' : ¬ (a : Int) < (j : Int) := by omega
          go_upto_region 4 with fail
          refine region_class F (by kernel_rfl) (by kernel_rfl) (by obtain ⟨x, hx⟩ := HO.out _ (Below.refl _ _).drew; exact ⟨x, hx.symm⟩) ?_
          repeat (go_big_quiet_step (fail))
          refine wpQuiet_nil ?_
          rintro _ ⟨nq, rfl⟩
          obtain ⟨z0, hz0⟩ : ∃ z, F nq = z := ⟨_, rfl⟩
          have HZB : Hid (Below wr.heap.size wr z0) := hz0 ▸ HF.out nq
          rw [hz0]
          have RZ : Hid (Row B 21 g n c z0 zs) := HR.out.below HZB.out
          have OZ : Hid (One g w z0) := HO1.out.trans (One.of HZB.out (Nat.le_of_lt HR.out.lt))
          clear hz0 HF HO
          go_wp2
          go_roundg (b - (i + 1))
          case measure => omega
          case rel => exact ⟨i + 1, zs, rfl, by omega, .inl (by omega), by go_num, by rw [← HP.out, ins_low (by omega)], RZ.out, OZ.out⟩
    · have hlt' : ¬ (i : Int) < (b : Int) := by omega
      go_wp2
      go_end0
      exact ⟨⟨_, rfl⟩, ys, by rw [← HP.out, ins_done (by omega)], HR.out, HO1.out⟩
end Go.Proofs.YtgijcbipnjmhgabGreat

namespace Go.Proofs.YtgijcbipnjmhgabGreat
open Go.ChangeShapes Go.WideShapes Go.ChangeAt Go.RowKit
set_option linter.unusedVariables false
set_option linter.unusedSimpArgs false

abbrev Sh (r m2 d1 d2 first p0 p1 p2 : Nat) : Prop := 2 * r = m2 ∧ m2 + 1 = d1 ∧ d1 + 1 = d2 ∧ first + r = p0 ∧ first + d1 = p1 ∧ first + d2 = p2
theorem sift_stop {hi first r : Nat} {d : Array Int} (h : ¬ 2 * r + 1 < hi) : Go.Sort.siftDown ltI hi first r d = d := by
  rw [Go.Sort.siftDown, dif_pos (by omega)]
theorem sift_two {hi first r m2 d1 d2 p0 p1 p2 : Nat} (hh : Sh r m2 d1 d2 first p0 p1 p2) {zs : List Hn} {x0 x1 x2 : Hn} (h0 : zs[p0]? = some x0) (h1 : zs[p1]? = some x1) (h2 : zs[p2]? = some x2) (hd : d2 < hi) (hl : x1.v < x2.v) :
    Go.Sort.siftDown ltI hi first r (arr zs) = if x0.v < x2.v then Go.Sort.siftDown ltI hi first d2 (arr (swp zs p0 p2 x0 x2)) else arr zs := by
  obtain ⟨rfl, rfl, rfl, rfl, rfl, rfl⟩ := hh
  rw [Go.Sort.siftDown, dif_neg (by omega), if_pos]
  · have e0 : (arr zs)[first + r]! = x0.v := arr_get h0
    have e2 : (arr zs)[first + (2 * r + 2)]! = x2.v := arr_get h2
    rw [e0, e2]
    by_cases hx : x0.v < x2.v
    · rw [ltI_of hx, if_neg (by decide), dif_pos (by omega), if_pos hx, arr_swp h0 h2]
    · rw [ltI_not hx, if_pos (by decide), if_neg hx]
  · have e1 : (arr zs)[first + (2 * r + 1)]! = x1.v := arr_get h1
    have e2 : (arr zs)[first + (2 * r + 1) + 1]! = x2.v := arr_get h2
    rw [e1, e2, ltI_of hl]
    simp
    omega
theorem sift_one {hi first r m2 d1 d2 p0 p1 p2 : Nat} (hh : Sh r m2 d1 d2 first p0 p1 p2) {zs : List Hn} {x0 x1 : Hn} (h0 : zs[p0]? = some x0) (h1 : zs[p1]? = some x1) (hd : d1 < hi) (hl : d2 < hi → ∃ x2, zs[p2]? = some x2 ∧ ¬ x1.v < x2.v) :
    Go.Sort.siftDown ltI hi first r (arr zs) = if x0.v < x1.v then Go.Sort.siftDown ltI hi first d1 (arr (swp zs p0 p1 x0 x1)) else arr zs := by
  obtain ⟨rfl, rfl, rfl, rfl, rfl, rfl⟩ := hh
  rw [Go.Sort.siftDown, dif_neg (by omega), if_neg]
  · have e0 : (arr zs)[first + r]! = x0.v := arr_get h0
    have e1 : (arr zs)[first + (2 * r + 1)]! = x1.v := arr_get h1
    rw [e0, e1]
    by_cases hx : x0.v < x1.v
    · rw [ltI_of hx, if_neg (by decide), if_pos hx, arr_swp h0 h1]
    · rw [ltI_not hx, if_pos (by decide), if_neg hx]
  · intro h
    simp only [Bool.and_eq_true, decide_eq_true_eq] at h
    obtain ⟨x2, h2, h3⟩ := hl h.1
    have e1 : (arr zs)[first + (2 * r + 1)]! = x1.v := arr_get h1
    have e2 : (arr zs)[first + (2 * r + 1) + 1]! = x2.v := arr_get h2
    rw [e1, e2, ltI_not h3] at h
    cases h.2

set_option maxRecDepth 1000000 in
set_option maxHeartbeats 4000000 in
theorem siftS_any (B g n c lo hi first : Nat) (xs : List Hn) (w : World) (h : Row B 21 g n c w xs) (hf : first + hi ≤ n) (hl : lo ≤ n) (hn : n ≤ 70368744177664) :
    Calls Tryz.prog 105 #[.slice (some ⟨g, 0, none⟩) n c, .int .i64 (lo : Int), .int .i64 (hi : Int), .int .i64 (first : Int)] w fun e w' => (∃ x, e = .returned x) ∧ ∃ ys, arr ys = Go.Sort.siftDown ltI hi first lo (arr xs) ∧ Row B 21 g n c w' ys ∧ One g w w' := by
  have HR : Hid (Row B 21 g n c w xs) := h
  clear h
  go_enter Tryz.func105, Tryz.ntmps105
  go_wp2
  go_loopg [8] (n - lo) (fun gk si wr => ∃ (r : Nat) (zs : List Hn), gk = n - r ∧ r ≤ n ∧ si = .int .i64 (r : Int) ∧ Go.Sort.siftDown ltI hi first r (arr zs) = Go.Sort.siftDown ltI hi first lo (arr xs) ∧ Row B 21 g n c wr zs ∧ One g w wr)
  case atStart => exact ⟨lo, xs, rfl, hl, rfl, rfl, HR.out, One.refl _ _⟩
  case round =>
    obtain ⟨r, zs, hgk, hr, rfl, hp, hR, hO⟩ := hrel
    clear HR
    have HR : Hid (Row B 21 g n c wr zs) := hR
    have HP : Hid (Go.Sort.siftDown ltI hi first r (arr zs) = Go.Sort.siftDown ltI hi first lo (arr xs)) := hp
    have HO1 : Hid (One g w wr) := hO
    have hzl := hR.len
    clear hR hp hO
    obtain ⟨m2, hm2⟩ : ∃ m2 : Nat, 2 * r = m2 := ⟨_, rfl⟩
    obtain ⟨d1, hd1⟩ : ∃ d1 : Nat, m2 + 1 = d1 := ⟨_, rfl⟩
    obtain ⟨d2, hd2⟩ : ∃ d2 : Nat, d1 + 1 = d2 := ⟨_, rfl⟩
    obtain ⟨p0, hp0⟩ : ∃ p : Nat, first + r = p := ⟨_, rfl⟩
    obtain ⟨p1, hp1⟩ : ∃ p : Nat, first + d1 = p := ⟨_, rfl⟩
    obtain ⟨p2, hp2⟩ : ∃ p : Nat, first + d2 = p := ⟨_, rfl⟩
    have HH : Hid (2 * r = m2 ∧ m2 + 1 = d1 ∧ d1 + 1 = d2 ∧ first + r = p0 ∧ first + d1 = p1 ∧ first + d2 = p2) := ⟨hm2, hd1, hd2, hp0, hp1, hp2⟩
    have mk1 : IntKind.i64.wrap (2 * (r : Int)) = (m2 : Int) := by rw [IntWalk.i64_in _ ⟨by omega, by omega⟩]; omega
    have mk2 : IntKind.i64.wrap ((m2 : Int) + 1) = (d1 : Int) := by rw [IntWalk.i64_in _ ⟨by omega, by omega⟩]; omega
    have mk3 : IntKind.i64.wrap ((d1 : Int) + 1) = (d2 : Int) := by rw [IntWalk.i64_in _ ⟨by omega, by omega⟩]; omega
    by_cases hc : d1 < hi
    · have hc' : (d1 : Int) < (hi : Int) := by omega
      have hc'' : ((hi : Int) ≤ (d1 : Int)) = False := by simp; omega
      have k0 : IntKind.i64.wrap ((first : Int) + (r : Int)) = (p0 : Int) := by rw [IntWalk.i64_in _ ⟨by omega, by omega⟩]; omega
      have k1 : IntKind.i64.wrap ((first : Int) + (d1 : Int)) = (p1 : Int) := by rw [IntWalk.i64_in _ ⟨by omega, by omega⟩]; omega
      have k2 : IntKind.i64.wrap ((first : Int) + (d2 : Int)) = (p2 : Int) := by rw [IntWalk.i64_in _ ⟨by omega, by omega⟩]; omega
      have k3 : IntKind.i64.wrap ((p1 : Int) + 1) = (p2 : Int) := by rw [IntWalk.i64_in _ ⟨by omega, by omega⟩]; omega
      have b0 : (p0 : Int) < (n : Int) := by omega
      have b1 : (p1 : Int) < (n : Int) := by omega
      obtain ⟨x0, hx0⟩ : ∃ x, zs[p0]? = some x := ⟨_, List.getElem?_eq_getElem (by omega)⟩
      obtain ⟨x1, hx1⟩ : ∃ x, zs[p1]? = some x := ⟨_, List.getElem?_eq_getElem (by omega)⟩
      have HX : Hid (zs[p0]? = some x0 ∧ zs[p1]? = some x1) := ⟨hx0, hx1⟩
      obtain ⟨X, F, hX, hF, onto⟩ := class_of (fun v => Below wr.heap.size wr v) (Below.refl _ wr)
      have HF : Hid (∀ y, Below wr.heap.size wr (F y)) := hF
      have HO : Hid (∀ v, Below wr.heap.size wr v → ∃ x, v = F x) := fun v h => by obtain ⟨x, hx⟩ := onto v h; exact ⟨x, hx.symm⟩
      have e0 : ∀ q, (F q).cell? ⟨g, p0, none⟩ = some (.int .i32 x0.v) := fun q => (HR.out.below (hF q)).get hx0
      have e1 : ∀ q, (F q).cell? ⟨g, p1, none⟩ = some (.int .i32 x1.v) := fun q => (HR.out.below (hF q)).get hx1
      clear hx0 hx1
      by_cases hc2 : d2 < hi
      · have hc2' : (d2 : Int) < (hi : Int) := by omega
        have b2 : (p2 : Int) < (n : Int) := by omega
        obtain ⟨x2, hx2⟩ : ∃ x, zs[p2]? = some x := ⟨_, List.getElem?_eq_getElem (by omega)⟩
        have HX2 : Hid (zs[p2]? = some x2) := hx2
        have e2 : ∀ q, (F q).cell? ⟨g, p2, none⟩ = some (.int .i32 x2.v) := fun q => (HR.out.below (hF q)).get hx2
        clear hx2 hF onto hzl hm2 hd1 hd2 hp0 hp1 hp2
        go_upto_region 3 with fail
        refine region_class F (by kernel_rfl) (by kernel_rfl) (by obtain ⟨x, hx⟩ := HO.out _ (Below.refl _ _).drew; exact ⟨x, hx.symm⟩) ?_
        repeat (go_big_quiet_step (first | (go_at_call 97; with_reducible refine (less_any x1.v x2.v _).mono ?_; rintro e z5 ⟨rfl, rfl⟩; exact ⟨rfl, HO.out _ (HF.out _)⟩)))
        refine wpQuiet_nil ?_
        rintro _ ⟨nq, rfl⟩
        by_cases hl2 : x1.v < x2.v
        · rw [show decide (x1.v < x2.v) = true from decide_eq_true hl2]
          clear e2
          obtain ⟨z0, hz0⟩ : ∃ z, F nq = z := ⟨_, rfl⟩
          have HZB : Hid (Below wr.heap.size wr z0) := hz0 ▸ HF.out nq
          rw [hz0]
          have RZ : Hid (Row B 21 g n c z0 zs) := HR.out.below HZB.out
          have OZ : Hid (One g w z0) := HO1.out.trans (One.of HZB.out (Nat.le_of_lt HR.out.lt))
          clear hz0 HF HO e0 e1 HR HO1
          obtain ⟨Y, G, hY, hG, ontoG⟩ := class_of (fun v => Below z0.heap.size z0 v) (Below.refl _ z0)
          have HG : Hid (∀ y, Below z0.heap.size z0 (G y)) := hG
          have HOG : Hid (∀ v, Below z0.heap.size z0 v → ∃ x, v = G x) := fun v h => by obtain ⟨x, hx⟩ := ontoG v h; exact ⟨x, hx.symm⟩
          have g0 : ∀ q, (G q).cell? ⟨g, p0, none⟩ = some (.int .i32 x0.v) := fun q => (RZ.out.below (hG q)).get HX.out.1
          have g1 : ∀ q, (G q).cell? ⟨g, p2, none⟩ = some (.int .i32 x2.v) := fun q => (RZ.out.below (hG q)).get HX2.out
          clear hG ontoG
          go_upto_region 5 with fail
          refine region_class G (by kernel_rfl) (by kernel_rfl) (by obtain ⟨x, hx⟩ := HOG.out _ (Below.refl _ _).drew; exact ⟨x, hx.symm⟩) ?_
          repeat (go_big_quiet_step (first | (go_at_call 97; with_reducible refine (less_any x0.v x2.v _).mono ?_; rintro e z5 ⟨rfl, rfl⟩; exact ⟨rfl, HOG.out _ (HG.out _)⟩)))
          refine wpQuiet_nil ?_
          rintro _ ⟨nz, rfl⟩
          obtain ⟨z1, hz1⟩ : ∃ z, G nz = z := ⟨_, rfl⟩
          have HZC : Hid (Below z0.heap.size z0 z1) := hz1 ▸ HG.out nz
          rw [hz1]
          have R1 : Hid (Row B 21 g n c z1 zs) := RZ.out.below HZC.out
          have O1 : Hid (One g w z1) := OZ.out.trans (One.of HZC.out (Nat.le_of_lt RZ.out.lt))
          clear hz1 HG HOG g0 g1 RZ OZ
          by_cases hlt : x0.v < x2.v
          · rw [show decide (x0.v < x2.v) = true from decide_eq_true hlt]
            go_upto_region 6 with fail
            have cx := R1.out.get HX.out.1
            have cy := R1.out.get HX2.out
            have f1 := R1.out.free p0
            have f2 := R1.out.free p2
            have hne : p0 ≠ p2 := by have := HH.out; omega
            have hne' : p2 ≠ p0 := fun e => hne e.symm
            go_big_region
            obtain ⟨z2, hz2⟩ : ∃ z, ((z1.setCell ⟨g, p0, none⟩ (.int .i32 x2.v)).setCell ⟨g, p2, none⟩ (.int .i32 x0.v)).drew = z := ⟨_, rfl⟩
            rw [hz2]
            have R2 : Hid (Row B 21 g n c z2 (swp zs p0 p2 x0 x2)) := by unfold Hid; rw [← hz2]; exact ((R1.out.set p0 x2).set p2 x0).below (Below.refl _ _).drew
            have O2 : Hid (One g w z2) := by unfold Hid; rw [← hz2]; exact ((O1.out.trans (One.set g p0 _ _)).trans (One.set g p2 _ _)).trans (One.of (Below.refl _ _).drew (by have := R1.out.lt; simp; omega))
            have P2 : Hid (Go.Sort.siftDown ltI hi first d2 (arr (swp zs p0 p2 x0 x2)) = Go.Sort.siftDown ltI hi first lo (arr xs)) := by
              unfold Hid; rw [← HP.out, sift_two HH.out HX.out.1 HX.out.2 HX2.out (by omega) (by omega), if_pos (by omega)]
            clear hz2 cx cy f1 f2
            go_wp2
            go_roundg (n - d2)
            case measure => have := HH.out; omega
            case rel => exact ⟨d2, _, rfl, by have := HH.out; omega, rfl, P2.out, R2.out, O2.out⟩
          · rw [show decide (x0.v < x2.v) = false from decide_eq_false hlt]
            go_wp2
            refine bodyPost_ret (results_none rfl _ _ _) rfl ?_
            exact ⟨⟨_, rfl⟩, zs, by rw [← HP.out, sift_two HH.out HX.out.1 HX.out.2 HX2.out (by omega) (by omega), if_neg (by omega)], R1.out, O1.out⟩
        · rw [show decide (x1.v < x2.v) = false from decide_eq_false hl2]
          clear e2
          obtain ⟨z0, hz0⟩ : ∃ z, F nq = z := ⟨_, rfl⟩
          have HZB : Hid (Below wr.heap.size wr z0) := hz0 ▸ HF.out nq
          rw [hz0]
          have RZ : Hid (Row B 21 g n c z0 zs) := HR.out.below HZB.out
          have OZ : Hid (One g w z0) := HO1.out.trans (One.of HZB.out (Nat.le_of_lt HR.out.lt))
          clear hz0 HF HO e0 e1 HR HO1
          obtain ⟨Y, G, hY, hG, ontoG⟩ := class_of (fun v => Below z0.heap.size z0 v) (Below.refl _ z0)
          have HG : Hid (∀ y, Below z0.heap.size z0 (G y)) := hG
          have HOG : Hid (∀ v, Below z0.heap.size z0 v → ∃ x, v = G x) := fun v h => by obtain ⟨x, hx⟩ := ontoG v h; exact ⟨x, hx.symm⟩
          have g0 : ∀ q, (G q).cell? ⟨g, p0, none⟩ = some (.int .i32 x0.v) := fun q => (RZ.out.below (hG q)).get HX.out.1
          have g1 : ∀ q, (G q).cell? ⟨g, p1, none⟩ = some (.int .i32 x1.v) := fun q => (RZ.out.below (hG q)).get HX.out.2
          clear hG ontoG
          go_upto_region 5 with fail
          refine region_class G (by kernel_rfl) (by kernel_rfl) (by obtain ⟨x, hx⟩ := HOG.out _ (Below.refl _ _).drew; exact ⟨x, hx.symm⟩) ?_
          repeat (go_big_quiet_step (first | (go_at_call 97; with_reducible refine (less_any x0.v x1.v _).mono ?_; rintro e z5 ⟨rfl, rfl⟩; exact ⟨rfl, HOG.out _ (HG.out _)⟩)))
          refine wpQuiet_nil ?_
          rintro _ ⟨nz, rfl⟩
          obtain ⟨z1, hz1⟩ : ∃ z, G nz = z := ⟨_, rfl⟩
          have HZC : Hid (Below z0.heap.size z0 z1) := hz1 ▸ HG.out nz
          rw [hz1]
          have R1 : Hid (Row B 21 g n c z1 zs) := RZ.out.below HZC.out
          have O1 : Hid (One g w z1) := OZ.out.trans (One.of HZC.out (Nat.le_of_lt RZ.out.lt))
          clear hz1 HG HOG g0 g1 RZ OZ
          by_cases hlt : x0.v < x1.v
          · rw [show decide (x0.v < x1.v) = true from decide_eq_true hlt]
            go_upto_region 6 with fail
            have cx := R1.out.get HX.out.1
            have cy := R1.out.get HX.out.2
            have f1 := R1.out.free p0
            have f2 := R1.out.free p1
            have hne : p0 ≠ p1 := by have := HH.out; omega
            have hne' : p1 ≠ p0 := fun e => hne e.symm
            go_big_region
            obtain ⟨z2, hz2⟩ : ∃ z, ((z1.setCell ⟨g, p0, none⟩ (.int .i32 x1.v)).setCell ⟨g, p1, none⟩ (.int .i32 x0.v)).drew = z := ⟨_, rfl⟩
            rw [hz2]
            have R2 : Hid (Row B 21 g n c z2 (swp zs p0 p1 x0 x1)) := by unfold Hid; rw [← hz2]; exact ((R1.out.set p0 x1).set p1 x0).below (Below.refl _ _).drew
            have O2 : Hid (One g w z2) := by unfold Hid; rw [← hz2]; exact ((O1.out.trans (One.set g p0 _ _)).trans (One.set g p1 _ _)).trans (One.of (Below.refl _ _).drew (by have := R1.out.lt; simp; omega))
            have P2 : Hid (Go.Sort.siftDown ltI hi first d1 (arr (swp zs p0 p1 x0 x1)) = Go.Sort.siftDown ltI hi first lo (arr xs)) := by
              unfold Hid; rw [← HP.out, sift_one HH.out HX.out.1 HX.out.2 (by omega) (fun _ => ⟨x2, HX2.out, by omega⟩), if_pos (by omega)]
            clear hz2 cx cy f1 f2
            go_wp2
            go_roundg (n - d1)
            case measure => have := HH.out; omega
            case rel => exact ⟨d1, _, rfl, by have := HH.out; omega, rfl, P2.out, R2.out, O2.out⟩
          · rw [show decide (x0.v < x1.v) = false from decide_eq_false hlt]
            go_wp2
            refine bodyPost_ret (results_none rfl _ _ _) rfl ?_
            exact ⟨⟨_, rfl⟩, zs, by rw [← HP.out, sift_one HH.out HX.out.1 HX.out.2 (by omega) (fun _ => ⟨x2, HX2.out, by omega⟩), if_neg (by omega)], R1.out, O1.out⟩
      · have hc2' : ¬ (d2 : Int) < (hi : Int) := by omega
        clear hF onto hzl hm2 hd1 hd2 hp0 hp1 hp2
        go_upto_region 3 with fail
        refine region_class F (by kernel_rfl) (by kernel_rfl) (by obtain ⟨x, hx⟩ := HO.out _ (Below.refl _ _).drew; exact ⟨x, hx.symm⟩) ?_
        repeat (go_big_quiet_step (first | (go_at_call 97; with_reducible refine (less_any x1.v x1.v _).mono ?_; rintro e z5 ⟨rfl, rfl⟩; exact ⟨rfl, HO.out _ (HF.out _)⟩)))
        refine wpQuiet_nil ?_
        rintro _ ⟨nq, rfl⟩
        obtain ⟨z0, hz0⟩ : ∃ z, F nq = z := ⟨_, rfl⟩
        have HZB : Hid (Below wr.heap.size wr z0) := hz0 ▸ HF.out nq
        rw [hz0]
        have RZ : Hid (Row B 21 g n c z0 zs) := HR.out.below HZB.out
        have OZ : Hid (One g w z0) := HO1.out.trans (One.of HZB.out (Nat.le_of_lt HR.out.lt))
        clear hz0 HF HO e0 e1 HR HO1
        obtain ⟨Y, G, hY, hG, ontoG⟩ := class_of (fun v => Below z0.heap.size z0 v) (Below.refl _ z0)
        have HG : Hid (∀ y, Below z0.heap.size z0 (G y)) := hG
        have HOG : Hid (∀ v, Below z0.heap.size z0 v → ∃ x, v = G x) := fun v h => by obtain ⟨x, hx⟩ := ontoG v h; exact ⟨x, hx.symm⟩
        have g0 : ∀ q, (G q).cell? ⟨g, p0, none⟩ = some (.int .i32 x0.v) := fun q => (RZ.out.below (hG q)).get HX.out.1
        have g1 : ∀ q, (G q).cell? ⟨g, p1, none⟩ = some (.int .i32 x1.v) := fun q => (RZ.out.below (hG q)).get HX.out.2
        clear hG ontoG
        go_upto_region 5 with fail
        refine region_class G (by kernel_rfl) (by kernel_rfl) (by obtain ⟨x, hx⟩ := HOG.out _ (Below.refl _ _).drew; exact ⟨x, hx.symm⟩) ?_
        repeat (go_big_quiet_step (first | (go_at_call 97; with_reducible refine (less_any x0.v x1.v _).mono ?_; rintro e z5 ⟨rfl, rfl⟩; exact ⟨rfl, HOG.out _ (HG.out _)⟩)))
        refine wpQuiet_nil ?_
        rintro _ ⟨nz, rfl⟩
        obtain ⟨z1, hz1⟩ : ∃ z, G nz = z := ⟨_, rfl⟩
        have HZC : Hid (Below z0.heap.size z0 z1) := hz1 ▸ HG.out nz
        rw [hz1]
        have R1 : Hid (Row B 21 g n c z1 zs) := RZ.out.below HZC.out
        have O1 : Hid (One g w z1) := OZ.out.trans (One.of HZC.out (Nat.le_of_lt RZ.out.lt))
        clear hz1 HG HOG g0 g1 RZ OZ
        by_cases hlt : x0.v < x1.v
        · rw [show decide (x0.v < x1.v) = true from decide_eq_true hlt]
          go_upto_region 6 with fail
          have cx := R1.out.get HX.out.1
          have cy := R1.out.get HX.out.2
          have f1 := R1.out.free p0
          have f2 := R1.out.free p1
          have hne : p0 ≠ p1 := by have := HH.out; omega
          have hne' : p1 ≠ p0 := fun e => hne e.symm
          go_big_region
          obtain ⟨z2, hz2⟩ : ∃ z, ((z1.setCell ⟨g, p0, none⟩ (.int .i32 x1.v)).setCell ⟨g, p1, none⟩ (.int .i32 x0.v)).drew = z := ⟨_, rfl⟩
          rw [hz2]
          have R2 : Hid (Row B 21 g n c z2 (swp zs p0 p1 x0 x1)) := by unfold Hid; rw [← hz2]; exact ((R1.out.set p0 x1).set p1 x0).below (Below.refl _ _).drew
          have O2 : Hid (One g w z2) := by unfold Hid; rw [← hz2]; exact ((O1.out.trans (One.set g p0 _ _)).trans (One.set g p1 _ _)).trans (One.of (Below.refl _ _).drew (by have := R1.out.lt; simp; omega))
          have P2 : Hid (Go.Sort.siftDown ltI hi first d1 (arr (swp zs p0 p1 x0 x1)) = Go.Sort.siftDown ltI hi first lo (arr xs)) := by
            unfold Hid; rw [← HP.out, sift_one HH.out HX.out.1 HX.out.2 (by omega) (fun h => absurd h (by omega)), if_pos (by omega)]
          clear hz2 cx cy f1 f2
          go_wp2
          go_roundg (n - d1)
          case measure => have := HH.out; omega
          case rel => exact ⟨d1, _, rfl, by have := HH.out; omega, rfl, P2.out, R2.out, O2.out⟩
        · rw [show decide (x0.v < x1.v) = false from decide_eq_false hlt]
          go_wp2
          refine bodyPost_ret (results_none rfl _ _ _) rfl ?_
          exact ⟨⟨_, rfl⟩, zs, by rw [← HP.out, sift_one HH.out HX.out.1 HX.out.2 (by omega) (fun h => absurd h (by omega)), if_neg (by omega)], R1.out, O1.out⟩
    · have hc' : ¬ (d1 : Int) < (hi : Int) := by omega
      have hc'' : ((hi : Int) ≤ (d1 : Int)) = True := by simp; omega
      clear hm2 hd1 hd2 hp0 hp1 hp2
      go_wp2
      go_end0
      exact ⟨⟨_, rfl⟩, zs, by rw [← HP.out, sift_stop (by have := HH.out; omega)], HR.out, HO1.out⟩
end Go.Proofs.YtgijcbipnjmhgabGreat

namespace Go.Proofs.YtgijcbipnjmhgabGreat
open Go.ChangeShapes Go.WideShapes Go.ChangeAt Go.RowKit
set_option linter.unusedVariables false
set_option linter.unusedSimpArgs false

set_option maxRecDepth 1000000 in
set_option maxHeartbeats 4000000 in
theorem heapS_any (B g n c a b : Nat) (xs : List Hn) (w : World) (h : Row B 21 g n c w xs) (hab : a ≤ b) (hb : b ≤ n) (hn : n ≤ 70368744177664) :
    Calls Tryz.prog 92 #[.slice (some ⟨g, 0, none⟩) n c, .int .i64 (a : Int), .int .i64 (b : Int)] w fun e w' => (∃ x, e = .returned x) ∧ ∃ ys, arr ys = Go.Sort.heapSort ltI (arr xs) a b ∧ Row B 21 g n c w' ys ∧ One g w w' := by
  have HR : Hid (Row B 21 g n c w xs) := h
  clear h
  obtain ⟨m, hm⟩ : ∃ m : Nat, b - a = m := ⟨_, rfl⟩
  obtain ⟨q, hq⟩ : ∃ q : Nat, (m - 1) / 2 = q := ⟨_, rfl⟩
  have k1 : IntKind.i64.wrap ((b : Int) - (a : Int)) = (m : Int) := by rw [IntWalk.i64_in _ ⟨by omega, by omega⟩]; omega
  obtain ⟨m1, hm1⟩ : ∃ m1 : Int, (m : Int) - 1 = m1 := ⟨_, rfl⟩
  have k2 : IntKind.i64.wrap ((m : Int) - 1) = m1 := by rw [IntWalk.i64_in _ ⟨by omega, by omega⟩]; omega
  have k3 : IntKind.i64.wrap (m1.tdiv 2) = (q : Int) := by
    have hd : m1.tdiv 2 = (q : Int) := by
      by_cases h0 : m = 0
      · have e1 : m1 = -1 := by omega
        have e2 : q = 0 := by omega
        rw [e1, e2]; decide
      · rw [Int.tdiv_eq_ediv_of_nonneg (by omega)]; omega
    rw [hd, IntWalk.i64_in _ ⟨by omega, by omega⟩]
  go_enter Tryz.func92, Tryz.ntmps92
  go_wp2
  have ham : a + m ≤ n := by omega
  have hmn : m ≤ n := by omega
  have hqn : q ≤ n := by omega
  have HMQ : Hid (b - a = m ∧ (m - 1) / 2 = q ∧ (m : Int) - 1 = m1) := ⟨hm, hq, hm1⟩
  clear k1 k2 k3 hm hq
  go_loopg [9] (q + 1) (fun gk si wr => ∃ (k : Nat) (s : Int) (zs : List Hn), gk = k ∧ k ≤ q + 1 ∧ s = (k : Int) - 1 ∧ si = .int .i64 s ∧ Go.Sort.heapPop ltI a m (Go.Sort.heapBuild ltI m a k (arr zs)) = Go.Sort.heapSort ltI (arr xs) a b ∧ Row B 21 g n c wr zs ∧ One g w wr)
  case atStart => exact ⟨q + 1, (q : Int), xs, rfl, Nat.le_refl _, by omega, rfl, by rw [Go.Sort.heapSort, HMQ.out.1, HMQ.out.2.1], HR.out, One.refl _ _⟩
  case round =>
    obtain ⟨k, s, zs, hgk, hk, hs, rfl, hp, hR, hO⟩ := hrel
    clear HR
    have HR : Hid (Row B 21 g n c wr zs) := hR
    have HP : Hid (Go.Sort.heapPop ltI a m (Go.Sort.heapBuild ltI m a k (arr zs)) = Go.Sort.heapSort ltI (arr xs) a b) := hp
    have HO1 : Hid (One g w wr) := hO
    clear hR hp hO
    by_cases hk0 : 0 < k
    · obtain ⟨r, rfl⟩ : ∃ r : Nat, s = (r : Int) := ⟨k - 1, by omega⟩
      have h0 : (0 : Int) ≤ (r : Int) := by omega
      have hrn : r ≤ n := by omega
      have km : IntKind.i64.wrap ((r : Int) - 1) = (r : Int) - 1 := IntWalk.i64_in _ ⟨by omega, by omega⟩
      have HKR : Hid (k = r + 1) := by unfold Hid; omega
      clear hs hk0
      go_wp2_with (go_at_call 105; (with_reducible refine (siftS_any B g n c r m a zs _ HR.out ham hrn hn).mono ?_); rintro e z1 ⟨⟨x, rfl⟩, ys, hp1, hr1, ho1⟩; have R1 : Hid (Row B 21 g n c z1 ys) := hr1; have P1 : Hid (Go.Sort.heapPop ltI a m (Go.Sort.heapBuild ltI m a r (arr ys)) = Go.Sort.heapSort ltI (arr xs) a b) := (by unfold Hid; rw [hp1, ← HP.out, HKR.out]; rfl); have O1 : Hid (One g w z1) := HO1.out.trans ho1; clear hp1 hr1 ho1)
      go_roundg r
      case measure => have := HKR.out; omega
      case rel => exact ⟨r, (r : Int) - 1, ys, rfl, by have := HKR.out; omega, rfl, rfl, P1.out, R1.out, O1.out⟩
    · have H0P : Hid (Go.Sort.heapPop ltI a m (arr zs) = Go.Sort.heapSort ltI (arr xs) a b) := by
        unfold Hid; rw [← HP.out, show k = 0 by omega]; rfl
      have hs1 : s = -1 := by omega
      subst hs1
      clear hs hk0 hk hgk
      have k2 : IntKind.i64.wrap ((m : Int) - 1) = m1 := by rw [HMQ.out.2.2]; exact IntWalk.i64_in _ ⟨by omega, by omega⟩
      go_wp2
      clear k2
      go_loopg [10] m (fun gk si wr => ∃ (k : Nat) (s : Int) (zs : List Hn), gk = k ∧ k ≤ m ∧ s = (k : Int) - 1 ∧ si = .int .i64 s ∧ Go.Sort.heapPop ltI a k (arr zs) = Go.Sort.heapSort ltI (arr xs) a b ∧ Row B 21 g n c wr zs ∧ One g w wr)
      case atStart => exact ⟨m, m1, zs, rfl, Nat.le_refl _, HMQ.out.2.2.symm, rfl, H0P.out, HR.out, HO1.out⟩
      case round =>
        obtain ⟨k, s, zs, hgk, hk, hs, rfl, hp, hR, hO⟩ := hrel
        clear HR HP HO1
        have HR : Hid (Row B 21 g n c wr zs) := hR
        have HP : Hid (Go.Sort.heapPop ltI a k (arr zs) = Go.Sort.heapSort ltI (arr xs) a b) := hp
        have HO1 : Hid (One g w wr) := hO
        have hzl := hR.len
        clear hR hp hO
        by_cases hk0 : 0 < k
        · obtain ⟨r, rfl⟩ : ∃ r : Nat, s = (r : Int) := ⟨k - 1, by omega⟩
          have h0 : (0 : Int) ≤ (r : Int) := by omega
          have km : IntKind.i64.wrap ((r : Int) - 1) = (r : Int) - 1 := IntWalk.i64_in _ ⟨by omega, by omega⟩
          have HKR : Hid (k = r + 1) := by unfold Hid; omega
          obtain ⟨p, hpp⟩ : ∃ p : Nat, a + r = p := ⟨_, rfl⟩
          have ka : IntKind.i64.wrap ((a : Int) + (r : Int)) = (p : Int) := by rw [IntWalk.i64_in _ ⟨by omega, by omega⟩]; omega
          have b0 : (a : Int) < (n : Int) := by omega
          have b1 : (p : Int) < (n : Int) := by omega
          obtain ⟨x, hx⟩ : ∃ x, zs[a]? = some x := ⟨_, List.getElem?_eq_getElem (by omega)⟩
          obtain ⟨y, hy⟩ : ∃ y, zs[p]? = some y := ⟨_, List.getElem?_eq_getElem (by omega)⟩
          have HX : Hid (zs[a]? = some x ∧ zs[p]? = some y) := ⟨hx, hy⟩
          have hsub : r ≤ m := by omega
          have hsf : a + r ≤ n := by omega
          have KEY : Hid (∀ z, Row B 21 g n c z (swp zs a p x y) → One g w z → Calls Tryz.prog 105 #[.slice (some ⟨g, 0, none⟩) n c, .int .i64 0, .int .i64 (r : Int), .int .i64 (a : Int)] z fun e w' => (∃ x, e = .returned x) ∧ ∃ ys, Go.Sort.heapPop ltI a r (arr ys) = Go.Sort.heapSort ltI (arr xs) a b ∧ Row B 21 g n c w' ys ∧ One g w w') := fun z hz ho => (siftS_any B g n c 0 r a _ z hz hsf (by omega) hn).mono (by
            rintro e w' ⟨he, ys, h1, h2, h3⟩
            exact ⟨he, ys, by rw [h1, arr_swp hx hy, ← HP.out, HKR.out, ← hpp]; rfl, h2, ho.trans h3⟩)
          have HPA : Hid (a + r = p) := hpp
          clear hs hk0 hx hy hzl hpp
          by_cases hr0 : p = a
          · subst hr0
            have hxy : x = y := by have := HX.out; rw [this.1] at this; exact Option.some.inj this.2
            subst hxy
            have cx := HR.out.get HX.out.1
            have f1 := HR.out.free p
            go_upto_region 10 with fail
            go_big_region
            obtain ⟨z2, hz2⟩ : ∃ z, ((wr.setCell ⟨g, p, none⟩ (.int .i32 x.v)).setCell ⟨g, p, none⟩ (.int .i32 x.v)).drew = z := ⟨_, rfl⟩
            rw [hz2]
            have R2 : Hid (Row B 21 g n c z2 (swp zs p p x x)) := by unfold Hid; rw [← hz2]; exact ((HR.out.set p x).set p x).below (Below.refl _ _).drew
            have O2 : Hid (One g w z2) := by unfold Hid; rw [← hz2]; exact ((HO1.out.trans (One.set g p _ _)).trans (One.set g p _ _)).trans (One.of (Below.refl _ _).drew (by have := HR.out.lt; simp; omega))
            clear hz2 cx f1
            go_wp2_with (go_at_call 105; (with_reducible refine (KEY.out _ R2.out O2.out).mono ?_); rintro e z3 ⟨⟨x, rfl⟩, ys, hp1, hr1, ho1⟩; have R3 : Hid (Row B 21 g n c z3 ys) := hr1; have P3 : Hid (Go.Sort.heapPop ltI p r (arr ys) = Go.Sort.heapSort ltI (arr xs) p b) := hp1; have O3 : Hid (One g w z3) := ho1; clear hp1 hr1 ho1)
            go_roundg r
            case measure => have := HKR.out; omega
            case rel => exact ⟨r, (r : Int) - 1, ys, rfl, by omega, rfl, rfl, P3.out, R3.out, O3.out⟩
          · have hne : p ≠ a := hr0
            have hne' : a ≠ p := fun e => hr0 e.symm
            have cx := HR.out.get HX.out.1
            have cy := HR.out.get HX.out.2
            have f1 := HR.out.free a
            have f2 := HR.out.free p
            go_upto_region 10 with fail
            go_big_region
            obtain ⟨z2, hz2⟩ : ∃ z, ((wr.setCell ⟨g, a, none⟩ (.int .i32 y.v)).setCell ⟨g, p, none⟩ (.int .i32 x.v)).drew = z := ⟨_, rfl⟩
            rw [hz2]
            have R2 : Hid (Row B 21 g n c z2 (swp zs a p x y)) := by unfold Hid; rw [← hz2]; exact ((HR.out.set a y).set p x).below (Below.refl _ _).drew
            have O2 : Hid (One g w z2) := by unfold Hid; rw [← hz2]; exact ((HO1.out.trans (One.set g a _ _)).trans (One.set g p _ _)).trans (One.of (Below.refl _ _).drew (by have := HR.out.lt; simp; omega))
            clear hz2 cx cy f1 f2
            go_wp2_with (go_at_call 105; (with_reducible refine (KEY.out _ R2.out O2.out).mono ?_); rintro e z3 ⟨⟨x, rfl⟩, ys, hp1, hr1, ho1⟩; have R3 : Hid (Row B 21 g n c z3 ys) := hr1; have P3 : Hid (Go.Sort.heapPop ltI a r (arr ys) = Go.Sort.heapSort ltI (arr xs) a b) := hp1; have O3 : Hid (One g w z3) := ho1; clear hp1 hr1 ho1)
            go_roundg r
            case measure => have := HKR.out; omega
            case rel => exact ⟨r, (r : Int) - 1, ys, rfl, by omega, rfl, rfl, P3.out, R3.out, O3.out⟩
        · have HZ : Hid (arr zs = Go.Sort.heapSort ltI (arr xs) a b) := by
            unfold Hid; rw [← HP.out, show k = 0 by omega]; rfl
          have hs1 : s = -1 := by omega
          subst hs1
          clear hs hk0 hk hgk
          go_wp2
          go_end0
          exact ⟨⟨_, rfl⟩, zs, HZ.out, HR.out, HO1.out⟩
end Go.Proofs.YtgijcbipnjmhgabGreat
