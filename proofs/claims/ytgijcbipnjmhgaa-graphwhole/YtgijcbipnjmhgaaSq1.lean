import Derived.Test.YtgijcbipnjmhgaaSq0
import Derived.Test.YtgijcbipnjmhgaaSr5
namespace Go.Proofs.Ytgijcbipnjmhgaa
open Go.ChangeShapes Go.WideShapes Go.ChangeAt Go.RowKit
set_option linter.unusedVariables false
set_option linter.unusedSimpArgs false

set_option maxRecDepth 1000000 in
set_option maxHeartbeats 2000000 in
theorem insertS_any (B g n c a b : Nat) (xs : List Hn) (w : World) (h : Row B 21 g n c w xs) (hab : b ≤ n) (ha : a ≤ n) (hn : n ≤ 70368744177664) :
    Calls Try.prog 77 #[.slice (some ⟨g, 0, none⟩) n c, .int .i64 (a : Int), .int .i64 (b : Int)] w fun e w' => (∃ x, e = .returned x) ∧ ∃ ys, arr ys = Go.Sort.insertionSort ltI (arr xs) a b ∧ Row B 21 g n c w' ys ∧ One g w w' := by
  have HR : Hid (Row B 21 g n c w xs) := h
  clear h
  go_enter Try.func77, Try.ntmps77
  go_wp2
  go_loopg [6] (b - (a + 1)) (fun gk si wr => ∃ (i : Nat) (ys : List Hn), gk = b - i ∧ a + 1 ≤ i ∧ (i ≤ b ∨ i = a + 1) ∧ si = .int .i64 (i : Int) ∧ Go.Sort.insOuter ltI a b i (arr ys) = Go.Sort.insertionSort ltI (arr xs) a b ∧ Row B 21 g n c wr ys ∧ One g w wr)
  case atStart => exact ⟨a + 1, xs, rfl, Nat.le_refl _, .inr rfl, by go_num, rfl, HR.out, One.refl _ _⟩
  case round =>
    obtain ⟨i, ys, rfl, hai, hib, rfl, hp, hR, hO⟩ := hrel
    clear HR
    have HR : Hid (Row B 21 g n c wr ys) := hR
    have HP : Hid (Go.Sort.insOuter ltI a b i (arr ys) = Go.Sort.insertionSort ltI (arr xs) a b) := hp
    have HO1 : Hid (One g w wr) := hO
    clear hR hp hO
    by_cases hlt : i < b
    · have hlt' : (i : Int) < (b : Int) := by omega
      go_wp2
      obtain ⟨wo, rfl⟩ : ∃ wo, wo = wr := ⟨_, rfl⟩
      go_loopg [7] i (fun gj sj wj => ∃ (j : Nat) (zs : List Hn), gj = j ∧ j ≤ i ∧ sj = .int .i64 (j : Int) ∧ Go.Sort.insOuter ltI a b (i + 1) (Go.Sort.insInner ltI a j (arr zs)) = Go.Sort.insertionSort ltI (arr xs) a b ∧ Row B 21 g n c wj zs ∧ One g w wj)
      case atStart => exact ⟨i, ys, rfl, Nat.le_refl _, rfl, by rw [← ins_open (by omega)]; exact HP.out, HR.out, HO1.out⟩
      case round =>
        obtain ⟨j, zs, hgj, hj, rfl, hp, hR, hO⟩ := hrel
        clear HR HP HO1
        have HR : Hid (Row B 21 g n c wr zs) := hR
        have HP : Hid (Go.Sort.insOuter ltI a b (i + 1) (Go.Sort.insInner ltI a j (arr zs)) = Go.Sort.insertionSort ltI (arr xs) a b) := hp
        have HO1 : Hid (One g w wr) := hO
        have hzl := hR.len
        clear hR hp hO
        obtain ⟨X, F, hX, hF, onto⟩ := class_of (fun v => Below wr.heap.size wr v) (Below.refl _ wr)
        have HF : Hid (∀ y, Below wr.heap.size wr (F y)) := hF
        have HO : Hid (∀ v, Below wr.heap.size wr v → ∃ x, v = F x) := fun v h => by obtain ⟨x, hx⟩ := onto v h; exact ⟨x, hx.symm⟩
        by_cases hja : a < j
        · have hja' : (a : Int) < (j : Int) := by omega
          obtain ⟨x, hx⟩ : ∃ x, zs[j]? = some x := ⟨_, List.getElem?_eq_getElem (by omega)⟩
          obtain ⟨y, hy⟩ : ∃ y, zs[j - 1]? = some y := ⟨_, List.getElem?_eq_getElem (by omega)⟩
          have cx : ∀ q, (F q).cell? ⟨g, j, none⟩ = some (.int .i32 x.v) := fun q => (HR.out.below (hF q)).get hx
          have cy : ∀ q, (F q).cell? ⟨g, j - 1, none⟩ = some (.int .i32 y.v) := fun q => (HR.out.below (hF q)).get hy
          have HX : Hid (zs[j]? = some x ∧ zs[j - 1]? = some y) := ⟨hx, hy⟩
          have m1 : IntKind.i64.wrap ((j : Int) - 1) = ((j - 1 : Nat) : Int) := by rw [IntWalk.i64_in _ ⟨by omega, by omega⟩]; omega
          have h1 : (j : Int) < (n : Int) := by omega
          have h2 : ((j - 1 : Nat) : Int) < (n : Int) := by omega
          clear hx hy hF onto hzl
          go_upto_region 4 with fail
          refine region_class F (by kernel_rfl) (by kernel_rfl) (by obtain ⟨x, hx⟩ := HO.out _ (Below.refl _ _).drew; exact ⟨x, hx.symm⟩) ?_
          repeat (go_big_quiet_step (first | (go_at_call 83; with_reducible refine (less_any x.v y.v _).mono ?_; rintro e z5 ⟨rfl, rfl⟩; exact ⟨rfl, HO.out _ (HF.out _)⟩)))
          refine wpQuiet_nil ?_
          rintro _ ⟨nq, rfl⟩
          obtain ⟨z0, hz0⟩ : ∃ z, F nq = z := ⟨_, rfl⟩
          have HZB : Hid (Below wr.heap.size wr z0) := hz0 ▸ HF.out nq
          rw [hz0]
          have RZ : Hid (Row B 21 g n c z0 zs) := HR.out.below HZB.out
          have OZ : Hid (One g w z0) := HO1.out.trans (One.of HZB.out (Nat.le_of_lt HR.out.lt))
          clear hz0 HF HO cx cy HR HO1
          by_cases hxy : x.v < y.v
          · rw [show decide (x.v < y.v) = true from decide_eq_true hxy]
            go_upto_region 6 with fail
            have HSr : z0.cell? ⟨g, j - 1, none⟩ = some (.int .i32 y.v) ∧ z0.cell? ⟨g, j, none⟩ = some (.int .i32 x.v) := ⟨RZ.out.get HX.out.2, RZ.out.get HX.out.1⟩
            obtain ⟨cy, cx⟩ := HSr
            have f1 := RZ.out.free j
            have f2 := RZ.out.free (j - 1)
            have hne : j - 1 ≠ j := by omega
            go_big_region
            obtain ⟨z1, hz1⟩ : ∃ z, ((z0.setCell ⟨g, j, none⟩ (.int .i32 y.v)).setCell ⟨g, j - 1, none⟩ (.int .i32 x.v)).drew = z := ⟨_, rfl⟩
            rw [hz1]
            have R1 : Hid (Row B 21 g n c z1 (swp zs j (j - 1) x y)) := by unfold Hid; rw [← hz1]; exact ((RZ.out.set j y).set (j - 1) x).below (Below.refl _ _).drew
            have O1 : Hid (One g w z1) := by unfold Hid; rw [← hz1]; exact ((OZ.out.trans (One.set g j _ _)).trans (One.set g (j - 1) _ _)).trans (One.of (Below.refl _ _).drew (by have := RZ.out.lt; simp; omega))
            have P1 : Hid (Go.Sort.insOuter ltI a b (i + 1) (Go.Sort.insInner ltI a (j - 1) (arr (swp zs j (j - 1) x y))) = Go.Sort.insertionSort ltI (arr xs) a b) := by unfold Hid; rw [← ins_on HX.out.1 HX.out.2 (by omega) (by omega)]; exact HP.out
            clear hz1 cx cy f1 f2
            go_wp2
            go_roundg (j - 1)
            case measure => omega
            case rel => exact ⟨j - 1, _, rfl, by omega, rfl, P1.out, R1.out, O1.out⟩
          · rw [show decide (x.v < y.v) = false from decide_eq_false hxy]
            go_wp2
            go_roundg (b - (i + 1))
            case measure => omega
            case rel => exact ⟨i + 1, zs, rfl, by omega, .inl (by omega), by go_num, by rw [← HP.out, ins_off HX.out.1 HX.out.2 (by omega)], RZ.out, OZ.out⟩
        · have hja' : ¬ (a : Int) < (j : Int) := by omega
          go_upto_region 4 with fail
          refine region_class F (by kernel_rfl) (by kernel_rfl) (by obtain ⟨x, hx⟩ := HO.out _ (Below.refl _ _).drew; exact ⟨x, hx.symm⟩) ?_
          repeat (go_big_quiet_step (fail))
          refine wpQuiet_nil ?_
          rintro _ ⟨nq, rfl⟩
          obtain ⟨z0, hz0⟩ : ∃ z, F nq = z := ⟨_, rfl⟩
          have HZB : Hid (Below wr.heap.size wr z0) := hz0 ▸ HF.out nq
          rw [hz0]
          have RZ : Hid (Row B 21 g n c z0 zs) := HR.out.below HZB.out
          have OZ : Hid (One g w z0) := HO1.out.trans (One.of HZB.out (Nat.le_of_lt HR.out.lt))
          clear hz0 HF HO
          go_wp2
          go_roundg (b - (i + 1))
          case measure => omega
          case rel => exact ⟨i + 1, zs, rfl, by omega, .inl (by omega), by go_num, by rw [← HP.out, ins_low (by omega)], RZ.out, OZ.out⟩
    · have hlt' : ¬ (i : Int) < (b : Int) := by omega
      go_wp2
      go_end0
      exact ⟨⟨_, rfl⟩, ys, by rw [← HP.out, ins_done (by omega)], HR.out, HO1.out⟩
end Go.Proofs.Ytgijcbipnjmhgaa
