import Derived.Test.YtkfdlccacddbfaaSr1
namespace Go.Proofs.Ytkfdlccacddbfaa
open Go.ChangeShapes Go.WideShapes Go.ChangeAt Go.RowKit
set_option linter.unusedVariables false
set_option linter.unusedSimpArgs false

/-- the row, and a counter's box beside it -/
structure Rc (B e g n c s : Nat) (m : Nat) (w : World) (xs : List Hn) : Prop where
  row : Row B e g n c w xs
  box : Bx w s #[.int .i64 (m : Int)] 3
  ne : s ≠ g
theorem Rc.below {B e g n c s m : Nat} {w w' : World} {xs : List Hn} (h : Rc B e g n c s m w xs) (hb : Below w.heap.size w w') : Rc B e g n c s m w' xs := ⟨h.row.below hb, h.box.below hb h.box.lt, h.ne⟩
theorem Rc.more {B e g n c s m k : Nat} {w : World} {xs : List Hn} (h : Rc B e g n c s m w xs) : Rc B e g n c s k (w.setCell ⟨s, 0, none⟩ (.int .i64 (k : Int))) xs :=
  ⟨ownsRow_setCell_other h.row (a := ⟨s, 0, none⟩) (fun e => by cases e; exact h.ne rfl) _, h.box.set 0 _, h.ne⟩

set_option maxRecDepth 1000000 in
set_option maxHeartbeats 2000000 in
theorem order2_any (B g n c s m a b : Nat) (xs : List Hn) (w : World) (h : Rc B 21 g n c s m w xs) (ha : a < n) (hb : b < n) (hm : m ≤ 1000) (hn : n ≤ 70368744177664) :
    Calls Try.prog 67 #[.slice (some ⟨g, 0, none⟩) n c, .int .i64 (a : Int), .int .i64 (b : Int), .pointer (some ⟨s, 0, none⟩)] w fun e w' => ∃ (x y k : Nat), e = .returned (.tuple #[.int .i64 (x : Int), .int .i64 (y : Int)]) ∧ (x = a ∧ y = b ∨ x = b ∧ y = a) ∧ k ≤ m + 1 ∧ Rc B 21 g n c s k w' xs ∧ One s w w' := by
  have HR : Hid (Rc B 21 g n c s m w xs) := h
  have hzl := h.row.len
  obtain ⟨x, hx⟩ : ∃ x, xs[a]? = some x := ⟨_, List.getElem?_eq_getElem (by omega)⟩
  obtain ⟨y, hy⟩ : ∃ y, xs[b]? = some y := ⟨_, List.getElem?_eq_getElem (by omega)⟩
  obtain ⟨X, F, hX, hF, onto⟩ := class_of (fun v => Below w.heap.size w v) (Below.refl _ w)
  have HF : Hid (∀ y, Below w.heap.size w (F y)) := hF
  have HO : Hid (∀ v, Below w.heap.size w v → ∃ x, v = F x) := fun v h => by obtain ⟨x, hx⟩ := onto v h; exact ⟨x, hx.symm⟩
  have cx : ∀ q, (F q).cell? ⟨g, a, none⟩ = some (.int .i32 x.v) := fun q => (h.row.below (hF q)).get hx
  have cy : ∀ q, (F q).cell? ⟨g, b, none⟩ = some (.int .i32 y.v) := fun q => (h.row.below (hF q)).get hy
  have b0 : (a : Int) < (n : Int) := by omega
  have b1 : (b : Int) < (n : Int) := by omega
  have km : IntKind.i64.wrap ((m : Int) + 1) = ((m + 1 : Nat) : Int) := by rw [IntWalk.i64_in _ ⟨by omega, by omega⟩]; omega
  clear h hx hy hF onto hzl
  go_enter Try.func67, Try.ntmps67
  go_wp2
  refine region_class F (by kernel_rfl) (by kernel_rfl) (by obtain ⟨x, hx⟩ := HO.out _ (Below.refl _ _).drew; exact ⟨x, hx.symm⟩) ?_
  repeat (go_big_quiet_step (first | (go_at_call 53; with_reducible refine (less_any y.v x.v _).mono ?_; rintro e z5 ⟨rfl, rfl⟩; exact ⟨rfl, HO.out _ (HF.out _)⟩)))
  refine wpQuiet_nil ?_
  rintro _ ⟨nq, rfl⟩
  obtain ⟨z0, hz0⟩ : ∃ z, F nq = z := ⟨_, rfl⟩
  have HZB : Hid (Below w.heap.size w z0) := hz0 ▸ HF.out nq
  rw [hz0]
  have RZ : Hid (Rc B 21 g n c s m z0 xs) := HR.out.below HZB.out
  have OZ : Hid (One s w z0) := One.of HZB.out (Nat.le_of_lt HR.out.box.lt)
  clear hz0 HF HO cx cy
  by_cases hyx : y.v < x.v
  · rw [show decide (y.v < x.v) = true from decide_eq_true hyx]
    have cs := RZ.out.box.one
    have fs := RZ.out.box.free 0
    obtain ⟨z1, hz1⟩ : ∃ z, z0.setCell ⟨s, 0, none⟩ (.int .i64 ((m : Int) + 1)) = z := ⟨_, rfl⟩
    have HE1 : Hid (z0.setCell ⟨s, 0, none⟩ (.int .i64 ((m : Int) + 1)) = z1) := hz1
    have R1 : Hid (Rc B 21 g n c s (m + 1) z1 xs) := by unfold Hid; rw [← hz1]; have h9 := RZ.out.more (k := m + 1); rw [show ((m + 1 : Nat) : Int) = (m : Int) + 1 by omega] at h9; exact h9
    have O1 : Hid (One s w z1) := by unfold Hid; rw [← hz1]; exact OZ.out.trans (One.set s 0 _ _)
    clear hz1
    go_wp2
    go_ret2
    rw [HE1.out]
    first
      | exact ⟨b, a, m + 1, rfl, .inr ⟨rfl, rfl⟩, Nat.le_refl _, R1.out, O1.out⟩
      | exact ⟨b, a, rfl, .inr ⟨rfl, rfl⟩, m + 1, Nat.le_refl _, R1.out, O1.out⟩
  · rw [show decide (y.v < x.v) = false from decide_eq_false hyx]
    go_wp2
    go_ret2
    first
      | exact ⟨a, b, m, rfl, .inl ⟨rfl, rfl⟩, Nat.le_succ _, RZ.out, OZ.out⟩
      | exact ⟨a, b, rfl, .inl ⟨rfl, rfl⟩, m, Nat.le_succ _, RZ.out, OZ.out⟩
end Go.Proofs.Ytkfdlccacddbfaa
