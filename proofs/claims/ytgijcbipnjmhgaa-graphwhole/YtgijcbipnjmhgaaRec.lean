import Derived.Test.YtgijcbipnjmhgaaRows
import Derived.WalkKit
import Derived.ProofKit
import Derived.OpenShut
import Derived.ShutString
import Derived.ChangeOld
import Derived.Below
import Derived.Handy
import Derived.Deep.Slices
import Derived.Deep.Strs
import Derived.Deep.LoopGhost
import Derived.Deep.QuietTactic
import Derived.BigQuiet
import Derived.WalkSpells
import Derived.WalkMore
import Derived.WalkSmall
namespace Go.Proofs.Ytgijcbipnjmhgaa
open Go.ChangeShapes Go.WideShapes Go.ChangeAt Go.RowKit
set_option linter.unusedVariables false

/-- what lies in a fixed number of cells -/
class Rw (α : Type) where
  k : Nat
  cs : α → List Value
  len : ∀ e, (cs e).length = k
  one : ∀ e u, u ∈ cs e → u.oneCell' = true
  pos : 0 < k

/-- the cells of a list, one behind the other -/
def flat {α : Type} [Rw α] (xs : List α) : List Value := xs.flatMap Rw.cs

theorem flat_cons {α : Type} [Rw α] (e : α) (r : List α) : flat (e :: r) = Rw.cs e ++ flat r := by simp [flat]

theorem flat_nil {α : Type} [Rw α] : flat ([] : List α) = [] := rfl

theorem flat_length {α : Type} [Rw α] (xs : List α) : (flat xs).length = xs.length * Rw.k α := by
  induction xs with
  | nil => simp [flat]
  | cons e r ih => rw [flat_cons, List.length_append, Rw.len, ih, List.length_cons, Nat.add_mul, Nat.one_mul, Nat.add_comm]

theorem flat_append {α : Type} [Rw α] (xs ys : List α) : flat (xs ++ ys) = flat xs ++ flat ys := by simp [flat]

theorem flat_get {α : Type} [Rw α] (xs : List α) (i r : Nat) (hr : r < Rw.k α) : (flat xs)[i * Rw.k α + r]? = (xs[i]?).bind fun e => (Rw.cs e)[r]? := by
  induction xs generalizing i with
  | nil => simp [flat]
  | cons e t ih =>
    rw [flat_cons]
    match i with
    | 0 =>
      rw [Nat.zero_mul, Nat.zero_add, List.getElem?_append_left (by rw [Rw.len]; exact hr)]
      rfl
    | i + 1 =>
      have h : (i + 1) * Rw.k α + r = Rw.k α + (i * Rw.k α + r) := by rw [Nat.add_mul, Nat.one_mul]; omega
      rw [List.getElem?_append_right (by rw [Rw.len]; omega), Rw.len, h, Nat.add_sub_cancel_left, ih]
      rfl

theorem flat_oneCell {α : Type} [Rw α] (xs : List α) : ∀ u ∈ flat xs, u.oneCell' = true := by
  intro u hu
  simp only [flat, List.mem_flatMap] at hu
  obtain ⟨e, _, h⟩ := hu
  exact Rw.one e u h

/-- the cells of a list, from a place on -/
def Lies {α : Type} [Rw α] (w : World) (b o : Nat) (xs : List α) : Prop :=
  b < w.heap.size ∧ ∀ j u, (flat xs)[j]? = some u → w.cell? ⟨b, o + j, none⟩ = some u

/-- .. or nothing, wherever it lies -/
def LiesA {α : Type} [Rw α] (w : World) (a : Option Addr) (xs : List α) : Prop := xs = [] ∨ ∃ b o, a = some ⟨b, o, none⟩ ∧ Lies w b o xs

theorem addr_add (b o j : Nat) : (⟨b, o, none⟩ : Addr).add j = ⟨b, o + j, none⟩ := by
  unfold Addr.add; by_cases hz : j = 0 <;> simp [hz]

theorem Lies.below {α : Type} [Rw α] {B : Nat} {w w' : World} {b o : Nat} {xs : List α} (h : Lies w b o xs) (hb : Below B w w') (hB : b < B) : Lies w' b o xs :=
  ⟨Nat.lt_of_lt_of_le h.1 hb.size, fun j u hj => (hb.cell (p := ⟨b, _, none⟩) hB).trans (h.2 j u hj)⟩

theorem LiesA.below {α : Type} [Rw α] {w w' : World} {a : Option Addr} {xs : List α} (h : LiesA w a xs) (hb : Below w.heap.size w w') : LiesA w' a xs := by
  rcases h with h | ⟨b, o, ha, h⟩
  · exact .inl h
  · exact .inr ⟨b, o, ha, h.below hb h.1⟩

theorem Lies.flat {α : Type} [Rw α] {w : World} {b o : Nat} {xs : List α} (h : Lies w b o xs) : ∀ j u, (flat xs)[j]? = some u → w.cell? ((⟨b, o, none⟩ : Addr).add j) = some u := by
  intro j u hj
  rw [addr_add]
  exact h.2 j u hj

theorem Lies.of_flat {α : Type} [Rw α] {w : World} {b o : Nat} {xs : List α} (hb : b < w.heap.size) (h : ∀ j u, (_root_.Go.Proofs.Ytgijcbipnjmhgaa.flat xs)[j]? = some u → w.cell? ((⟨b, o, none⟩ : Addr).add j) = some u) : Lies w b o xs :=
  ⟨hb, fun j u hj => by rw [← addr_add]; exact h j u hj⟩

theorem Lies.get {α : Type} [Rw α] {w : World} {b o : Nat} {xs : List α} (h : Lies w b o xs) {i : Nat} {e : α} (he : xs[i]? = some e) (r : Nat) (u : Value) (hu : (Rw.cs e)[r]? = some u) :
    w.cell? ⟨b, o + (i * Rw.k α + r), none⟩ = some u := by
  refine h.2 _ u ?_
  rw [flat_get xs i r (by have := (List.getElem?_eq_some_iff.1 hu).1; rw [Rw.len] at this; exact this), he]
  exact hu

theorem Lies.pre {α : Type} [Rw α] {w : World} {b o : Nat} {xs ys : List α} (h : Lies w b o (xs ++ ys)) : Lies w b o xs := by
  refine ⟨h.1, fun j u hj => h.2 j u ?_⟩
  rw [flat_append, List.getElem?_append_left (List.getElem?_eq_some_iff.1 hj).1]
  exact hj

/-- a row of the call's own -/
theorem Lies.own {α : Type} [Rw α] {w : World} {base e n cap g : Nat} {xs : List α} (h : w.ownsRow base e (Rw.k α) (.slice (some ⟨g, 0, none⟩) n cap) n (_root_.Go.Proofs.Ytgijcbipnjmhgaa.flat xs)) : Lies w g 0 xs :=
  Lies.of_flat (h.lt g rfl).2 (h.cells rfl)

theorem cells_new (w : World) (l : List Value) (t : TypeId) : ∀ j u, l[j]? = some u → (w.alloc (.cells l.toArray t)).cell? ((⟨w.heap.size, 0, none⟩ : Addr).add j) = some u := by
  intro j u hj
  rw [addr_add, World.cell?_alloc_at _ _ _ _ rfl]
  simpa using hj

theorem ownsRow_below {w w' : World} {base e size n B : Nat} {v : Value} {xs : List Value} (h : w.ownsRow base e size v n xs) (hb : Below B w w') (hB : w.heap.size ≤ B) : w'.ownsRow base e size v n xs := by
  obtain ⟨h1, h2⟩ := h
  refine ⟨h1, ?_⟩
  rcases h2 with h2 | ⟨g, cap, cur, hv, hg, hh, r⟩
  · exact .inl h2
  · exact .inr ⟨g, cap, cur, hv, hg, (hb.block g (Nat.lt_of_lt_of_le (lt_of_block hh) hB)).trans hh, r⟩

/-- what the call has built, as a slice -/
theorem own_form {α : Type} [Rw α] {w : World} {base e n : Nat} {v : Value} {xs : List α} (h : w.ownsRow base e (Rw.k α) v n (flat xs)) : ∃ a cap, v = .slice a n cap ∧ LiesA w a xs ∧ n = xs.length ∧ (a = none → n = 0 ∧ cap = 0) := by
  have hn : n = xs.length := by
    have := h.1; rw [flat_length] at this
    exact Nat.eq_of_mul_eq_mul_right (Rw.pos (α := α)) this.symm
  rcases h.2 with ⟨h1, h2⟩ | ⟨g, cap, cur, hv, hg, hh, r⟩
  · refine ⟨none, 0, by rw [h1, h2], .inl (List.eq_nil_of_length_eq_zero (by omega)), hn, fun _ => ⟨h2, rfl⟩⟩
  · subst hv
    exact ⟨some ⟨g, 0, none⟩, cap, rfl, .inr ⟨g, 0, rfl, Lies.own h⟩, hn, fun h => by cases h⟩

theorem drop_get {α : Type} {xs : List α} {k : Nat} {e : α} (h : xs[k]? = some e) : xs.drop k = e :: xs.drop (k + 1) := by
  obtain ⟨hk, he⟩ := List.getElem?_eq_some_iff.1 h
  rw [List.drop_eq_getElem_cons hk, he]

theorem ret_i64 {a b : Int} (h : a = b) : Ending.returned (.int .i64 a) = .returned (.int .i64 b) := by rw [h]

/-- a piece -/
structure Tk where
  k : Int
  f : Int
  t : Int

/-- a node -/
structure Nd where
  k : Int
  f : Int
  e : Int
  s : Int

instance : Rw Tk := ⟨3, fun e => [.int .u8 e.k, .int .i64 e.f, .int .i64 e.t], fun _ => rfl, fun e u h => by simp at h; rcases h with rfl | rfl | rfl <;> rfl, by decide⟩
instance : Rw Nd := ⟨4, fun e => [.int .u8 e.k, .int .i64 e.f, .int .i64 e.e, .int .i64 e.s], fun _ => rfl, fun e u h => by simp at h; rcases h with rfl | rfl | rfl | rfl <;> rfl, by decide⟩
instance : Rw Int := ⟨1, fun e => [.int .i64 e], fun _ => rfl, fun e u h => by simp at h; subst h; rfl, by decide⟩

def In64 (x : Int) : Prop := -9223372036854775808 ≤ x ∧ x ≤ 9223372036854775807
def TkFit (e : Tk) : Prop := (0 ≤ e.k ∧ e.k ≤ 255) ∧ In64 e.f ∧ In64 e.t
def NdFit (e : Nd) : Prop := (0 ≤ e.k ∧ e.k ≤ 255) ∧ In64 e.f ∧ In64 e.e ∧ In64 e.s

theorem Lies.tk {w : World} {b o : Nat} {xs : List Tk} (h : Lies w b o xs) {w' : World} (hb : Below w.heap.size w w') {i : Nat} {e : Tk} (he : xs[i]? = some e) :
    w'.cell? ⟨b, o + i * 3, none⟩ = some (.int .u8 e.k) ∧ w'.cell? ⟨b, o + i * 3 + 1, none⟩ = some (.int .i64 e.f) ∧ w'.cell? ⟨b, o + i * 3 + 2, none⟩ = some (.int .i64 e.t) := by
  have h' := h.below hb h.1
  exact ⟨h'.get he 0 _ rfl, h'.get he 1 _ rfl, h'.get he 2 _ rfl⟩

theorem Lies.nd {w : World} {b o : Nat} {xs : List Nd} (h : Lies w b o xs) {w' : World} (hb : Below w.heap.size w w') {i : Nat} {e : Nd} (he : xs[i]? = some e) :
    w'.cell? ⟨b, o + i * 4, none⟩ = some (.int .u8 e.k) ∧ w'.cell? ⟨b, o + i * 4 + 1, none⟩ = some (.int .i64 e.f) ∧ w'.cell? ⟨b, o + i * 4 + 2, none⟩ = some (.int .i64 e.e) ∧ w'.cell? ⟨b, o + i * 4 + 3, none⟩ = some (.int .i64 e.s) := by
  have h' := h.below hb h.1
  exact ⟨h'.get he 0 _ rfl, h'.get he 1 _ rfl, h'.get he 2 _ rfl, h'.get he 3 _ rfl⟩

theorem Lies.int {w : World} {b o : Nat} {xs : List Int} (h : Lies w b o xs) {w' : World} (hb : Below w.heap.size w w') {i : Nat} {e : Int} (he : xs[i]? = some e) :
    w'.cell? ⟨b, o + i, none⟩ = some (.int .i64 e) := by
  have h' := h.below hb h.1
  have := h'.get he 0 _ rfl
  rwa [show o + (i * Rw.k Int + 0) = o + i by show o + (i * 1 + 0) = o + i; omega] at this

/-- a struct of one cell that was put into a variable of its own -/
theorem box1 {w : World} {v : Value} {t : TypeId} {wr : World} (h : Below (w.heap.size + 1) (w.alloc (.cells #[v] t)) wr) :
    Below w.heap.size w wr ∧ wr.cell? ⟨w.heap.size, 0, none⟩ = some v ∧ w.heap.size + 1 ≤ wr.heap.size := by
  refine ⟨((Below.refl _ _).alloc (Nat.le_refl _) _).trans (h.mono (by omega)), ?_, by have := h.size; simpa using this⟩
  have := h.cell (p := ⟨w.heap.size, 0, none⟩) (by simp)
  rw [this, World.cell?_alloc_at _ _ _ _ rfl]
  rfl

theorem box2 {w : World} {v1 v2 : Value} {t1 t2 : TypeId} {wr : World} (h : Below (w.heap.size + 2) ((w.alloc (.cells #[v1] t1)).alloc (.cells #[v2] t2)) wr) :
    Below w.heap.size w wr ∧ wr.cell? ⟨w.heap.size, 0, none⟩ = some v1 ∧ wr.cell? ⟨w.heap.size + 1, 0, none⟩ = some v2 ∧ w.heap.size + 2 ≤ wr.heap.size := by
  have h' : Below ((w.alloc (.cells #[v1] t1)).heap.size + 1) ((w.alloc (.cells #[v1] t1)).alloc (.cells #[v2] t2)) wr := by simpa using h
  obtain ⟨g1, g2, g3⟩ := box1 h'
  obtain ⟨k1, k2, k3⟩ := box1 (w := w) (v := v1) (t := t1) (g1.mono (by simp))
  refine ⟨k1, k2, by simpa using g2, by simpa using g3⟩

/-- a block of the call's own -/
def Bx (w : World) (g : Nat) (vs : Array Value) (t : TypeId) : Prop := w.heap[g]? = some (.cells vs t (0, 0))
theorem Bx.lt {w : World} {g : Nat} {vs : Array Value} {t : TypeId} (h : Bx w g vs t) : g < w.heap.size := lt_of_block h
theorem Bx.cell {w : World} {g : Nat} {vs : Array Value} {t : TypeId} (h : Bx w g vs t) (i : Nat) : w.cell? ⟨g, i, none⟩ = vs[i]? := by simp [World.cell?, show w.heap[g]? = _ from h]
theorem Bx.one {w : World} {g : Nat} {x : Value} {t : TypeId} (h : Bx w g #[x] t) : w.cell? ⟨g, 0, none⟩ = some x := h.cell 0
theorem Bx.t0 {w : World} {g : Nat} {x y z : Value} {t : TypeId} (h : Bx w g #[x, y, z] t) : w.cell? ⟨g, 0, none⟩ = some x := h.cell 0
theorem Bx.t1 {w : World} {g : Nat} {x y z : Value} {t : TypeId} (h : Bx w g #[x, y, z] t) : w.cell? ⟨g, 1, none⟩ = some y := h.cell 1
theorem Bx.t2 {w : World} {g : Nat} {x y z : Value} {t : TypeId} (h : Bx w g #[x, y, z] t) : w.cell? ⟨g, 2, none⟩ = some z := h.cell 2
theorem Bx.free {w : World} {g : Nat} {vs : Array Value} {t : TypeId} (h : Bx w g vs t) (i : Nat) : w.frozen? ⟨g, i, none⟩ = false := by simp [World.frozen?, show w.heap[g]? = _ from h]
theorem Bx.drewN {w : World} {g : Nat} {vs : Array Value} {t : TypeId} (h : Bx w g vs t) (n : Nat) : Bx (w.drewN n) g vs t := h
theorem Bx.drew {w : World} {g : Nat} {vs : Array Value} {t : TypeId} (h : Bx w g vs t) : Bx w.drew g vs t := h
theorem Bx.below {B : Nat} {w w' : World} {g : Nat} {vs : Array Value} {t : TypeId} (h : Bx w g vs t) (hb : Below B w w') (hg : g < B) : Bx w' g vs t := (hb.block g hg).trans h
theorem Bx.alloc {w : World} {g : Nat} {vs : Array Value} {t : TypeId} (h : Bx w g vs t) (o : Obj) : Bx (w.alloc o) g vs t := (Below.heap_alloc w o g h.lt).trans h
theorem Bx.new (w : World) (vs : Array Value) (t : TypeId) : Bx (w.alloc (.cells vs t)) w.heap.size vs t := heap_alloc_new w _
theorem Bx.other {w : World} {g : Nat} {vs : Array Value} {t : TypeId} (h : Bx w g vs t) (a : Addr) (hne : g ≠ a.block) (v : Value) : Bx (w.setCell a v) g vs t := (heap_setCell_other w a g v hne).trans h
theorem Bx.set {w : World} {g : Nat} {vs : Array Value} {t : TypeId} (h : Bx w g vs t) (i : Nat) (v : Value) : Bx (w.setCell ⟨g, i, none⟩ v) g (vs.setIfInBounds i v) t := by
  have := heap_setCell_same w g i _ _ v h
  simpa [Bx] using this
theorem own_base {w : World} {base base' e size n : Nat} {v : Value} {xs : List Value} (h : w.ownsRow base e size v n xs) (hb : base' ≤ base) : w.ownsRow base' e size v n xs := by
  refine ⟨h.1, ?_⟩
  rcases h.2 with h2 | ⟨g, cap, cur, h3, h4, r⟩
  · exact .inl h2
  · exact .inr ⟨g, cap, cur, h3, Nat.le_trans hb h4, r⟩

theorem own_set3 {w : World} {base e k n g : Nat} {v : Value} {xs : List Value} (h : w.ownsRow base e k v n xs) (hne : v.ownBlock ≠ some g) (x y z : Value) :
    (((w.setCell ⟨g, 0, none⟩ x).setCell ⟨g, 1, none⟩ y).setCell ⟨g, 2, none⟩ z).ownsRow base e k v n xs :=
  ownsRow_setCell_other (ownsRow_setCell_other (ownsRow_setCell_other h (a := ⟨g, 0, none⟩) hne x) (a := ⟨g, 1, none⟩) hne y) (a := ⟨g, 2, none⟩) hne z

theorem bx1 (w : World) (v1 : Array Value) (t1 : TypeId) : ∃ w2, w.alloc (.cells v1 t1) = w2 ∧ Below w.heap.size w w2 ∧ w2.heap.size = w.heap.size + 1 ∧ Bx w2 w.heap.size v1 t1 :=
  ⟨_, rfl, (Below.refl _ _).alloc (Nat.le_refl _) _, by simp, Bx.new _ _ _⟩

theorem bx2 (w : World) (v1 v2 : Array Value) (t1 t2 : TypeId) : ∃ w2, (w.alloc (.cells v1 t1)).alloc (.cells v2 t2) = w2 ∧ Below w.heap.size w w2 ∧ w2.heap.size = w.heap.size + 2 ∧ Bx w2 w.heap.size v1 t1 ∧ Bx w2 (w.heap.size + 1) v2 t2 := by
  refine ⟨_, rfl, ((Below.refl _ _).alloc (Nat.le_refl _) _).alloc (by simp) _, by simp, (Bx.new _ _ _).alloc _, ?_⟩
  have := Bx.new (w.alloc (.cells v1 t1)) v2 t2
  simpa using this
end Go.Proofs.Ytgijcbipnjmhgaa
