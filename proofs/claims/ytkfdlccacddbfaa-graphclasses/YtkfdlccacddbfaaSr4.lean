import Derived.Test.YtkfdlccacddbfaaSr1
namespace Go.Proofs.Ytkfdlccacddbfaa
open Go.ChangeShapes Go.WideShapes Go.ChangeAt Go.RowKit
set_option linter.unusedVariables false
set_option linter.unusedSimpArgs false

set_option maxRecDepth 1000000 in
set_option maxHeartbeats 2000000 in
theorem rev_any (B g n c a b : Nat) (xs : List Hn) (w : World) (h : Row B 21 g n c w xs) (hab : a < b) (hb : b ≤ n) (hn : n ≤ 70368744177664) :
    Calls Try.prog 51 #[.slice (some ⟨g, 0, none⟩) n c, .int .i64 (a : Int), .int .i64 (b : Int)] w fun e w' => (∃ x, e = .returned x) ∧ ∃ ys, ys.Perm xs ∧ Row B 21 g n c w' ys ∧ One g w w' := by
  have HR : Hid (Row B 21 g n c w xs) := h
  clear h
  obtain ⟨b1, hb1⟩ : ∃ b1 : Nat, b - 1 = b1 := ⟨_, rfl⟩
  have k1 : IntKind.i64.wrap ((b : Int) - 1) = (b1 : Int) := by rw [IntWalk.i64_in _ ⟨by omega, by omega⟩]; omega
  go_enter Try.func51, Try.ntmps51
  go_wp2
  clear k1
  go_loopg [6, 7] b (fun gk si sj wr => ∃ (i j : Nat) (zs : List Hn), gk = j + 1 ∧ j + 1 ≤ b ∧ si = .int .i64 (i : Int) ∧ i ≤ n ∧ sj = .int .i64 (j : Int) ∧ zs.Perm xs ∧ Row B 21 g n c wr zs ∧ One g w wr)
  case atStart => exact ⟨a, b1, xs, by omega, by omega, rfl, by omega, rfl, List.Perm.refl _, HR.out, One.refl _ _⟩
  case round =>
    obtain ⟨i, j, zs, hgk, hj, rfl, hi, rfl, hp, hR, hO⟩ := hrel
    clear HR
    have HR : Hid (Row B 21 g n c wr zs) := hR
    have HP : Hid (zs.Perm xs) := hp
    have HO1 : Hid (One g w wr) := hO
    have hzl := hR.len
    clear hR hp hO
    by_cases hij : i < j
    · have hij' : (i : Int) < (j : Int) := by omega
      obtain ⟨j1, hj1⟩ : ∃ j1 : Nat, j - 1 = j1 := ⟨_, rfl⟩
      have kj : IntKind.i64.wrap ((j : Int) - 1) = (j1 : Int) := by rw [IntWalk.i64_in _ ⟨by omega, by omega⟩]; omega
      have b0 : (i : Int) < (n : Int) := by omega
      have b1 : (j : Int) < (n : Int) := by omega
      obtain ⟨x, hx⟩ : ∃ x, zs[i]? = some x := ⟨_, List.getElem?_eq_getElem (by omega)⟩
      obtain ⟨y, hy⟩ : ∃ y, zs[j]? = some y := ⟨_, List.getElem?_eq_getElem (by omega)⟩
      have HX : Hid (zs[i]? = some x ∧ zs[j]? = some y) := ⟨hx, hy⟩
      have cx := HR.out.get hx
      have cy := HR.out.get hy
      have f1 := HR.out.free i
      have f2 := HR.out.free j
      have hne : j ≠ i := by omega
      have hne' : i ≠ j := by omega
      clear hx hy hzl
      go_upto_region 3 with fail
      go_big_region
      obtain ⟨z2, hz2⟩ : ∃ z, ((wr.setCell ⟨g, i, none⟩ (.int .i32 y.v)).setCell ⟨g, j, none⟩ (.int .i32 x.v)).drew = z := ⟨_, rfl⟩
      rw [hz2]
      have R2 : Hid (Row B 21 g n c z2 (swp zs i j x y)) := by unfold Hid; rw [← hz2]; exact ((HR.out.set i y).set j x).below (Below.refl _ _).drew
      have O2 : Hid (One g w z2) := by unfold Hid; rw [← hz2]; exact ((HO1.out.trans (One.set g i _ _)).trans (One.set g j _ _)).trans (One.of (Below.refl _ _).drew (by have := HR.out.lt; simp; omega))
      have P2 : Hid ((swp zs i j x y).Perm xs) := (swp_perm HX.out.1 HX.out.2).trans HP.out
      have HJ : Hid (j - 1 = j1) := hj1
      clear hz2 cx cy f1 f2 hj1
      go_wp2
      go_roundg (j1 + 1)
      case measure => have := HJ.out; omega
      case rel => exact ⟨i + 1, j1, _, rfl, by have := HJ.out; omega, by go_num, by omega, rfl, P2.out, R2.out, O2.out⟩
    · have hij' : ¬ (i : Int) < (j : Int) := by omega
      go_wp2
      go_end0
      exact ⟨⟨_, rfl⟩, zs, HP.out, HR.out, HO1.out⟩
end Go.Proofs.Ytkfdlccacddbfaa
