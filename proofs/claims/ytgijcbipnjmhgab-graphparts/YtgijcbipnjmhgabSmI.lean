import Derived.Test.YtgijcbipnjmhgabRows
import Derived.WalkKit
import Derived.ProofKit
import Derived.OpenShut
import Derived.ShutString
import Derived.ChangeOld
import Derived.Below
import Derived.Handy
import Derived.Deep.Slices
import Derived.Deep.Strs
import Derived.Deep.LoopGhost
import Derived.Deep.QuietTactic
import Derived.BigQuiet
import Derived.WalkSpells
import Derived.WalkMore
import Derived.WalkSmall
namespace Go.Proofs.Ytgijcbipnjmhgab
open Go.ChangeShapes Go.WideShapes Go.ChangeAt Go.RowKit
set_option linter.unusedVariables false

/-- what lies in a fixed number of cells -/
class Rw (α : Type) where
  k : Nat
  cs : α → List Value
  len : ∀ e, (cs e).length = k
  one : ∀ e u, u ∈ cs e → u.oneCell' = true
  pos : 0 < k

/-- the cells of a list, one behind the other -/
def flat {α : Type} [Rw α] (xs : List α) : List Value := xs.flatMap Rw.cs

theorem flat_cons {α : Type} [Rw α] (e : α) (r : List α) : flat (e :: r) = Rw.cs e ++ flat r := by simp [flat]

theorem flat_nil {α : Type} [Rw α] : flat ([] : List α) = [] := rfl

theorem flat_length {α : Type} [Rw α] (xs : List α) : (flat xs).length = xs.length * Rw.k α := by
  induction xs with
  | nil => simp [flat]
  | cons e r ih => rw [flat_cons, List.length_append, Rw.len, ih, List.length_cons, Nat.add_mul, Nat.one_mul, Nat.add_comm]

theorem flat_append {α : Type} [Rw α] (xs ys : List α) : flat (xs ++ ys) = flat xs ++ flat ys := by simp [flat]

theorem flat_get {α : Type} [Rw α] (xs : List α) (i r : Nat) (hr : r < Rw.k α) : (flat xs)[i * Rw.k α + r]? = (xs[i]?).bind fun e => (Rw.cs e)[r]? := by
  induction xs generalizing i with
  | nil => simp [flat]
  | cons e t ih =>
    rw [flat_cons]
    match i with
    | 0 =>
      rw [Nat.zero_mul, Nat.zero_add, List.getElem?_append_left (by rw [Rw.len]; exact hr)]
      rfl
    | i + 1 =>
      have h : (i + 1) * Rw.k α + r = Rw.k α + (i * Rw.k α + r) := by rw [Nat.add_mul, Nat.one_mul]; omega
      rw [List.getElem?_append_right (by rw [Rw.len]; omega), Rw.len, h, Nat.add_sub_cancel_left, ih]
      rfl

theorem flat_oneCell {α : Type} [Rw α] (xs : List α) : ∀ u ∈ flat xs, u.oneCell' = true := by
  intro u hu
  simp only [flat, List.mem_flatMap] at hu
  obtain ⟨e, _, h⟩ := hu
  exact Rw.one e u h

/-- the cells of a list, from a place on -/
def Lies {α : Type} [Rw α] (w : World) (b o : Nat) (xs : List α) : Prop :=
  b < w.heap.size ∧ ∀ j u, (flat xs)[j]? = some u → w.cell? ⟨b, o + j, none⟩ = some u

/-- .. or nothing, wherever it lies -/
def LiesA {α : Type} [Rw α] (w : World) (a : Option Addr) (xs : List α) : Prop := xs = [] ∨ ∃ b o, a = some ⟨b, o, none⟩ ∧ Lies w b o xs

theorem addr_add (b o j : Nat) : (⟨b, o, none⟩ : Addr).add j = ⟨b, o + j, none⟩ := by
  unfold Addr.add; by_cases hz : j = 0 <;> simp [hz]

theorem Lies.below {α : Type} [Rw α] {B : Nat} {w w' : World} {b o : Nat} {xs : List α} (h : Lies w b o xs) (hb : Below B w w') (hB : b < B) : Lies w' b o xs :=
  ⟨Nat.lt_of_lt_of_le h.1 hb.size, fun j u hj => (hb.cell (p := ⟨b, _, none⟩) hB).trans (h.2 j u hj)⟩

theorem LiesA.below {α : Type} [Rw α] {w w' : World} {a : Option Addr} {xs : List α} (h : LiesA w a xs) (hb : Below w.heap.size w w') : LiesA w' a xs := by
  rcases h with h | ⟨b, o, ha, h⟩
  · exact .inl h
  · exact .inr ⟨b, o, ha, h.below hb h.1⟩

theorem Lies.flat {α : Type} [Rw α] {w : World} {b o : Nat} {xs : List α} (h : Lies w b o xs) : ∀ j u, (flat xs)[j]? = some u → w.cell? ((⟨b, o, none⟩ : Addr).add j) = some u := by
  intro j u hj
  rw [addr_add]
  exact h.2 j u hj

theorem Lies.of_flat {α : Type} [Rw α] {w : World} {b o : Nat} {xs : List α} (hb : b < w.heap.size) (h : ∀ j u, (_root_.Go.Proofs.Ytgijcbipnjmhgab.flat xs)[j]? = some u → w.cell? ((⟨b, o, none⟩ : Addr).add j) = some u) : Lies w b o xs :=
  ⟨hb, fun j u hj => by rw [← addr_add]; exact h j u hj⟩

theorem Lies.get {α : Type} [Rw α] {w : World} {b o : Nat} {xs : List α} (h : Lies w b o xs) {i : Nat} {e : α} (he : xs[i]? = some e) (r : Nat) (u : Value) (hu : (Rw.cs e)[r]? = some u) :
    w.cell? ⟨b, o + (i * Rw.k α + r), none⟩ = some u := by
  refine h.2 _ u ?_
  rw [flat_get xs i r (by have := (List.getElem?_eq_some_iff.1 hu).1; rw [Rw.len] at this; exact this), he]
  exact hu

theorem Lies.pre {α : Type} [Rw α] {w : World} {b o : Nat} {xs ys : List α} (h : Lies w b o (xs ++ ys)) : Lies w b o xs := by
  refine ⟨h.1, fun j u hj => h.2 j u ?_⟩
  rw [flat_append, List.getElem?_append_left (List.getElem?_eq_some_iff.1 hj).1]
  exact hj

/-- a row of the call's own -/
theorem Lies.own {α : Type} [Rw α] {w : World} {base e n cap g : Nat} {xs : List α} (h : w.ownsRow base e (Rw.k α) (.slice (some ⟨g, 0, none⟩) n cap) n (_root_.Go.Proofs.Ytgijcbipnjmhgab.flat xs)) : Lies w g 0 xs :=
  Lies.of_flat (h.lt g rfl).2 (h.cells rfl)

theorem cells_new (w : World) (l : List Value) (t : TypeId) : ∀ j u, l[j]? = some u → (w.alloc (.cells l.toArray t)).cell? ((⟨w.heap.size, 0, none⟩ : Addr).add j) = some u := by
  intro j u hj
  rw [addr_add, World.cell?_alloc_at _ _ _ _ rfl]
  simpa using hj

theorem ownsRow_below {w w' : World} {base e size n B : Nat} {v : Value} {xs : List Value} (h : w.ownsRow base e size v n xs) (hb : Below B w w') (hB : w.heap.size ≤ B) : w'.ownsRow base e size v n xs := by
  obtain ⟨h1, h2⟩ := h
  refine ⟨h1, ?_⟩
  rcases h2 with h2 | ⟨g, cap, cur, hv, hg, hh, r⟩
  · exact .inl h2
  · exact .inr ⟨g, cap, cur, hv, hg, (hb.block g (Nat.lt_of_lt_of_le (lt_of_block hh) hB)).trans hh, r⟩

/-- what the call has built, as a slice -/
theorem own_form {α : Type} [Rw α] {w : World} {base e n : Nat} {v : Value} {xs : List α} (h : w.ownsRow base e (Rw.k α) v n (flat xs)) : ∃ a cap, v = .slice a n cap ∧ LiesA w a xs ∧ n = xs.length ∧ (a = none → n = 0 ∧ cap = 0) := by
  have hn : n = xs.length := by
    have := h.1; rw [flat_length] at this
    exact Nat.eq_of_mul_eq_mul_right (Rw.pos (α := α)) this.symm
  rcases h.2 with ⟨h1, h2⟩ | ⟨g, cap, cur, hv, hg, hh, r⟩
  · refine ⟨none, 0, by rw [h1, h2], .inl (List.eq_nil_of_length_eq_zero (by omega)), hn, fun _ => ⟨h2, rfl⟩⟩
  · subst hv
    exact ⟨some ⟨g, 0, none⟩, cap, rfl, .inr ⟨g, 0, rfl, Lies.own h⟩, hn, fun h => by cases h⟩

theorem drop_get {α : Type} {xs : List α} {k : Nat} {e : α} (h : xs[k]? = some e) : xs.drop k = e :: xs.drop (k + 1) := by
  obtain ⟨hk, he⟩ := List.getElem?_eq_some_iff.1 h
  rw [List.drop_eq_getElem_cons hk, he]

theorem ret_i64 {a b : Int} (h : a = b) : Ending.returned (.int .i64 a) = .returned (.int .i64 b) := by rw [h]

/-- a piece -/
structure Tk where
  k : Int
  f : Int
  t : Int

/-- a node -/
structure Nd where
  k : Int
  f : Int
  e : Int
  s : Int

instance : Rw Tk := ⟨3, fun e => [.int .u8 e.k, .int .i64 e.f, .int .i64 e.t], fun _ => rfl, fun e u h => by simp at h; rcases h with rfl | rfl | rfl <;> rfl, by decide⟩
instance : Rw Nd := ⟨4, fun e => [.int .u8 e.k, .int .i64 e.f, .int .i64 e.e, .int .i64 e.s], fun _ => rfl, fun e u h => by simp at h; rcases h with rfl | rfl | rfl | rfl <;> rfl, by decide⟩
instance : Rw Int := ⟨1, fun e => [.int .i64 e], fun _ => rfl, fun e u h => by simp at h; subst h; rfl, by decide⟩

def In64 (x : Int) : Prop := -9223372036854775808 ≤ x ∧ x ≤ 9223372036854775807
def TkFit (e : Tk) : Prop := (0 ≤ e.k ∧ e.k ≤ 255) ∧ In64 e.f ∧ In64 e.t
def NdFit (e : Nd) : Prop := (0 ≤ e.k ∧ e.k ≤ 255) ∧ In64 e.f ∧ In64 e.e ∧ In64 e.s

theorem Lies.tk {w : World} {b o : Nat} {xs : List Tk} (h : Lies w b o xs) {w' : World} (hb : Below w.heap.size w w') {i : Nat} {e : Tk} (he : xs[i]? = some e) :
    w'.cell? ⟨b, o + i * 3, none⟩ = some (.int .u8 e.k) ∧ w'.cell? ⟨b, o + i * 3 + 1, none⟩ = some (.int .i64 e.f) ∧ w'.cell? ⟨b, o + i * 3 + 2, none⟩ = some (.int .i64 e.t) := by
  have h' := h.below hb h.1
  exact ⟨h'.get he 0 _ rfl, h'.get he 1 _ rfl, h'.get he 2 _ rfl⟩

theorem Lies.nd {w : World} {b o : Nat} {xs : List Nd} (h : Lies w b o xs) {w' : World} (hb : Below w.heap.size w w') {i : Nat} {e : Nd} (he : xs[i]? = some e) :
    w'.cell? ⟨b, o + i * 4, none⟩ = some (.int .u8 e.k) ∧ w'.cell? ⟨b, o + i * 4 + 1, none⟩ = some (.int .i64 e.f) ∧ w'.cell? ⟨b, o + i * 4 + 2, none⟩ = some (.int .i64 e.e) ∧ w'.cell? ⟨b, o + i * 4 + 3, none⟩ = some (.int .i64 e.s) := by
  have h' := h.below hb h.1
  exact ⟨h'.get he 0 _ rfl, h'.get he 1 _ rfl, h'.get he 2 _ rfl, h'.get he 3 _ rfl⟩

theorem Lies.int {w : World} {b o : Nat} {xs : List Int} (h : Lies w b o xs) {w' : World} (hb : Below w.heap.size w w') {i : Nat} {e : Int} (he : xs[i]? = some e) :
    w'.cell? ⟨b, o + i, none⟩ = some (.int .i64 e) := by
  have h' := h.below hb h.1
  have := h'.get he 0 _ rfl
  rwa [show o + (i * Rw.k Int + 0) = o + i by show o + (i * 1 + 0) = o + i; omega] at this

/-- a struct of one cell that was put into a variable of its own -/
theorem box1 {w : World} {v : Value} {t : TypeId} {wr : World} (h : Below (w.heap.size + 1) (w.alloc (.cells #[v] t)) wr) :
    Below w.heap.size w wr ∧ wr.cell? ⟨w.heap.size, 0, none⟩ = some v ∧ w.heap.size + 1 ≤ wr.heap.size := by
  refine ⟨((Below.refl _ _).alloc (Nat.le_refl _) _).trans (h.mono (by omega)), ?_, by have := h.size; simpa using this⟩
  have := h.cell (p := ⟨w.heap.size, 0, none⟩) (by simp)
  rw [this, World.cell?_alloc_at _ _ _ _ rfl]
  rfl

theorem box2 {w : World} {v1 v2 : Value} {t1 t2 : TypeId} {wr : World} (h : Below (w.heap.size + 2) ((w.alloc (.cells #[v1] t1)).alloc (.cells #[v2] t2)) wr) :
    Below w.heap.size w wr ∧ wr.cell? ⟨w.heap.size, 0, none⟩ = some v1 ∧ wr.cell? ⟨w.heap.size + 1, 0, none⟩ = some v2 ∧ w.heap.size + 2 ≤ wr.heap.size := by
  have h' : Below ((w.alloc (.cells #[v1] t1)).heap.size + 1) ((w.alloc (.cells #[v1] t1)).alloc (.cells #[v2] t2)) wr := by simpa using h
  obtain ⟨g1, g2, g3⟩ := box1 h'
  obtain ⟨k1, k2, k3⟩ := box1 (w := w) (v := v1) (t := t1) (g1.mono (by simp))
  refine ⟨k1, k2, by simpa using g2, by simpa using g3⟩

/-- a block of the call's own -/
def Bx (w : World) (g : Nat) (vs : Array Value) (t : TypeId) : Prop := w.heap[g]? = some (.cells vs t (0, 0))
theorem Bx.lt {w : World} {g : Nat} {vs : Array Value} {t : TypeId} (h : Bx w g vs t) : g < w.heap.size := lt_of_block h
theorem Bx.cell {w : World} {g : Nat} {vs : Array Value} {t : TypeId} (h : Bx w g vs t) (i : Nat) : w.cell? ⟨g, i, none⟩ = vs[i]? := by simp [World.cell?, show w.heap[g]? = _ from h]
theorem Bx.one {w : World} {g : Nat} {x : Value} {t : TypeId} (h : Bx w g #[x] t) : w.cell? ⟨g, 0, none⟩ = some x := h.cell 0
theorem Bx.t0 {w : World} {g : Nat} {x y z : Value} {t : TypeId} (h : Bx w g #[x, y, z] t) : w.cell? ⟨g, 0, none⟩ = some x := h.cell 0
theorem Bx.t1 {w : World} {g : Nat} {x y z : Value} {t : TypeId} (h : Bx w g #[x, y, z] t) : w.cell? ⟨g, 1, none⟩ = some y := h.cell 1
theorem Bx.t2 {w : World} {g : Nat} {x y z : Value} {t : TypeId} (h : Bx w g #[x, y, z] t) : w.cell? ⟨g, 2, none⟩ = some z := h.cell 2
theorem Bx.free {w : World} {g : Nat} {vs : Array Value} {t : TypeId} (h : Bx w g vs t) (i : Nat) : w.frozen? ⟨g, i, none⟩ = false := by simp [World.frozen?, show w.heap[g]? = _ from h]
theorem Bx.drewN {w : World} {g : Nat} {vs : Array Value} {t : TypeId} (h : Bx w g vs t) (n : Nat) : Bx (w.drewN n) g vs t := h
theorem Bx.drew {w : World} {g : Nat} {vs : Array Value} {t : TypeId} (h : Bx w g vs t) : Bx w.drew g vs t := h
theorem Bx.below {B : Nat} {w w' : World} {g : Nat} {vs : Array Value} {t : TypeId} (h : Bx w g vs t) (hb : Below B w w') (hg : g < B) : Bx w' g vs t := (hb.block g hg).trans h
theorem Bx.alloc {w : World} {g : Nat} {vs : Array Value} {t : TypeId} (h : Bx w g vs t) (o : Obj) : Bx (w.alloc o) g vs t := (Below.heap_alloc w o g h.lt).trans h
theorem Bx.new (w : World) (vs : Array Value) (t : TypeId) : Bx (w.alloc (.cells vs t)) w.heap.size vs t := heap_alloc_new w _
theorem Bx.other {w : World} {g : Nat} {vs : Array Value} {t : TypeId} (h : Bx w g vs t) (a : Addr) (hne : g ≠ a.block) (v : Value) : Bx (w.setCell a v) g vs t := (heap_setCell_other w a g v hne).trans h
theorem Bx.set {w : World} {g : Nat} {vs : Array Value} {t : TypeId} (h : Bx w g vs t) (i : Nat) (v : Value) : Bx (w.setCell ⟨g, i, none⟩ v) g (vs.setIfInBounds i v) t := by
  have := heap_setCell_same w g i _ _ v h
  simpa [Bx] using this
theorem own_base {w : World} {base base' e size n : Nat} {v : Value} {xs : List Value} (h : w.ownsRow base e size v n xs) (hb : base' ≤ base) : w.ownsRow base' e size v n xs := by
  refine ⟨h.1, ?_⟩
  rcases h.2 with h2 | ⟨g, cap, cur, h3, h4, r⟩
  · exact .inl h2
  · exact .inr ⟨g, cap, cur, h3, Nat.le_trans hb h4, r⟩

theorem own_set3 {w : World} {base e k n g : Nat} {v : Value} {xs : List Value} (h : w.ownsRow base e k v n xs) (hne : v.ownBlock ≠ some g) (x y z : Value) :
    (((w.setCell ⟨g, 0, none⟩ x).setCell ⟨g, 1, none⟩ y).setCell ⟨g, 2, none⟩ z).ownsRow base e k v n xs :=
  ownsRow_setCell_other (ownsRow_setCell_other (ownsRow_setCell_other h (a := ⟨g, 0, none⟩) hne x) (a := ⟨g, 1, none⟩) hne y) (a := ⟨g, 2, none⟩) hne z

theorem bx1 (w : World) (v1 : Array Value) (t1 : TypeId) : ∃ w2, w.alloc (.cells v1 t1) = w2 ∧ Below w.heap.size w w2 ∧ w2.heap.size = w.heap.size + 1 ∧ Bx w2 w.heap.size v1 t1 :=
  ⟨_, rfl, (Below.refl _ _).alloc (Nat.le_refl _) _, by simp, Bx.new _ _ _⟩

theorem bx2 (w : World) (v1 v2 : Array Value) (t1 t2 : TypeId) : ∃ w2, (w.alloc (.cells v1 t1)).alloc (.cells v2 t2) = w2 ∧ Below w.heap.size w w2 ∧ w2.heap.size = w.heap.size + 2 ∧ Bx w2 w.heap.size v1 t1 ∧ Bx w2 (w.heap.size + 1) v2 t2 := by
  refine ⟨_, rfl, ((Below.refl _ _).alloc (Nat.le_refl _) _).alloc (by simp) _, by simp, (Bx.new _ _ _).alloc _, ?_⟩
  have := Bx.new (w.alloc (.cells v1 t1)) v2 t2
  simpa using this
end Go.Proofs.Ytgijcbipnjmhgab

namespace Go.Proofs.Ytgijcbipnjmhgab
open Go.ChangeShapes Go.WideShapes Go.ChangeAt Go.RowKit
set_option linter.unusedVariables false
set_option linter.unusedSimpArgs false

/-- a row of numbers of which two change their places -/
def sw (xs : List Int) (i j : Nat) : List Int := (xs.set i xs[j]!).set j xs[i]!
theorem sw_len (xs : List Int) (i j : Nat) : (sw xs i j).length = xs.length := by simp [sw]
theorem get_set (xs : List Int) (i k : Nat) (x : Int) (hi : i < xs.length) : (xs.set i x)[k]! = if k = i then x else xs[k]! := by
  by_cases h : k = i
  · subst h; rw [if_pos rfl, getElem!_pos _ _ (by simpa using hi)]; simp
  · rw [if_neg h]
    simp only [getElem!_def, List.getElem?_set_ne (fun e => h e.symm)]
theorem sw_get (xs : List Int) {i j : Nat} (hi : i < xs.length) (hj : j < xs.length) (k : Nat) : (sw xs i j)[k]! = if k = j then xs[i]! else if k = i then xs[j]! else xs[k]! := by
  unfold sw
  rw [get_set _ _ _ _ (by simpa using hj), get_set _ _ _ _ hi]
theorem sw_perm (xs : List Int) {i j : Nat} (hi : i < xs.length) (hj : j < xs.length) : (sw xs i j).Perm xs := by
  unfold sw
  rw [getElem!_pos xs i hi, getElem!_pos xs j hj]
  exact List.set_set_perm hi hj
/-- a heap of the first n of a row -/
def Hpp (xs : List Int) (n : Nat) : Prop := ∀ i, 0 < i → i < n → xs[(i - 1) / 2]! ≤ xs[i]!
/-- .. but for j, which may be less than what lies above it -/
structure HpU (xs : List Int) (n j : Nat) : Prop where
  one : ∀ i, 0 < i → i < n → i ≠ j → xs[(i - 1) / 2]! ≤ xs[i]!
  two : ∀ i, 0 < i → i < n → (i - 1) / 2 = j → 0 < j → xs[(j - 1) / 2]! ≤ xs[i]!
/-- .. but for i, which may be greater than what lies below it -/
structure HpD (xs : List Int) (n i : Nat) : Prop where
  one : ∀ k, 0 < k → k < n → (k - 1) / 2 ≠ i → xs[(k - 1) / 2]! ≤ xs[k]!
  two : ∀ k, 0 < k → k < n → (k - 1) / 2 = i → 0 < i → xs[(i - 1) / 2]! ≤ xs[k]!
theorem HpU.done {xs : List Int} {n j : Nat} (h : HpU xs n j) (hj : j = 0 ∨ ¬ xs[j]! < xs[(j - 1) / 2]!) : Hpp xs n := by
  intro i h0 hn
  by_cases e : i = j
  · subst e
    rcases hj with e | e
    · omega
    · omega
  · exact h.one i h0 hn e
theorem HpU.up {xs : List Int} {n j : Nat} (h : HpU xs n j) (hn : n ≤ xs.length) (hj : j < n) (h0 : 0 < j) (hl : xs[j]! < xs[(j - 1) / 2]!) : HpU (sw xs ((j - 1) / 2) j) n ((j - 1) / 2) := by
  obtain ⟨p, hp⟩ : ∃ p, (j - 1) / 2 = p := ⟨_, rfl⟩
  rw [hp] at hl ⊢
  have hpj : p < j := by omega
  have G := sw_get xs (i := p) (j := j) (by omega) (by omega)
  refine ⟨fun i i0 i1 ip => ?_, fun i i0 i1 ip p0 => ?_⟩
  · rw [G, G]
    by_cases e1 : i = j
    · subst e1
      rw [if_pos rfl, hp, if_neg (by omega), if_pos rfl]
      omega
    · rw [if_neg e1, if_neg ip]
      by_cases e2 : (i - 1) / 2 = j
      · rw [if_pos e2]
        have := h.two i i0 i1 e2 h0
        rw [hp] at this
        exact this
      · rw [if_neg e2]
        by_cases e3 : (i - 1) / 2 = p
        · rw [if_pos e3]
          have := h.one i i0 i1 e1
          rw [e3] at this
          omega
        · rw [if_neg e3]
          exact h.one i i0 i1 e1
  · rw [G, G, if_neg (by omega), if_neg (by omega)]
    have hpp := h.one p p0 (by omega) (by omega)
    by_cases e1 : i = j
    · rw [if_pos e1]; exact hpp
    · rw [if_neg e1, if_neg (by omega)]
      have := h.one i i0 i1 e1
      rw [ip] at this
      omega
theorem HpD.done {xs : List Int} {n i : Nat} (h : HpD xs n i) (h1 : 2 * i + 1 < n → ¬ xs[2 * i + 1]! < xs[i]!) (h2 : 2 * i + 2 < n → ¬ xs[2 * i + 2]! < xs[i]!) : Hpp xs n := by
  intro k k0 kn
  by_cases e : (k - 1) / 2 = i
  · rw [e]
    rcases (by omega : k = 2 * i + 1 ∨ k = 2 * i + 2) with rfl | rfl
    · have := h1 kn; omega
    · have := h2 kn; omega
  · exact h.one k k0 kn e
theorem HpD.down {xs : List Int} {n i j : Nat} (h : HpD xs n i) (hn : n ≤ xs.length) (hj : j = 2 * i + 1 ∨ j = 2 * i + 2) (hjn : j < n) (hl : xs[j]! < xs[i]!) (hs : ∀ k, (k = 2 * i + 1 ∨ k = 2 * i + 2) → k < n → xs[j]! ≤ xs[k]!) : HpD (sw xs i j) n j := by
  have G := sw_get xs (i := i) (j := j) (by omega) (by omega)
  have hji : (j - 1) / 2 = i := by omega
  refine ⟨fun k k0 k1 kp => ?_, fun k k0 k1 kp j0 => ?_⟩
  · rw [G, G, if_neg kp]
    by_cases e1 : (k - 1) / 2 = i
    · rw [if_pos e1]
      by_cases e2 : k = j
      · rw [if_pos e2]; omega
      · rw [if_neg e2, if_neg (by omega)]
        exact hs k (by omega) k1
    · rw [if_neg e1, if_neg (by omega)]
      by_cases e3 : k = i
      · subst e3
        rw [if_pos rfl]
        exact h.two j (by omega) hjn hji k0
      · rw [if_neg e3]
        exact h.one k k0 k1 e1
  · rw [hji, G, G, if_neg (by omega), if_pos rfl, if_neg (by omega), if_neg (by omega)]
    have := h.one k k0 k1 (by omega)
    rw [kp] at this
    exact this
theorem Hpp.min {xs : List Int} {n : Nat} (h : Hpp xs n) : ∀ m i, i ≤ m → i < n → xs[0]! ≤ xs[i]!
  | m, 0, _, _ => Int.le_refl _
  | 0, i + 1, hm, _ => by omega
  | m + 1, i + 1, hm, hi => by
    have h1 := h (i + 1) (by omega) hi
    have h2 := Hpp.min h m ((i + 1 - 1) / 2) (by omega) (by omega)
    omega
/-- the first is taken out: the last comes in its place -/
theorem Hpp.pop {xs : List Int} {n : Nat} (h : Hpp xs (n + 1)) (hn : n + 1 = xs.length) : HpD (sw xs 0 n) n 0 := by
  have G := sw_get xs (i := 0) (j := n) (by omega) (by omega)
  refine ⟨fun k k0 k1 kp => ?_, fun k k0 k1 kp i0 => by omega⟩
  rw [G, G, if_neg (by omega), if_neg (by omega), if_neg (by omega), if_neg (by omega)]
  exact h k k0 (by omega)
theorem get_app (xs : List Int) (x : Int) {i : Nat} (hi : i < xs.length) : (xs ++ [x])[i]! = xs[i]! := by
  rw [getElem!_pos (xs ++ [x]) i (by simp; omega), getElem!_pos xs i hi, List.getElem_append_left hi]
/-- one more is put in -/
theorem Hpp.push {xs : List Int} (h : Hpp xs xs.length) (x : Int) : HpU (xs ++ [x]) (xs.length + 1) xs.length := by
  refine ⟨fun i i0 i1 ij => ?_, fun i i0 i1 ij j0 => by omega⟩
  rw [get_app _ _ (by omega), get_app _ _ (by omega)]
  exact h i i0 (by omega)
theorem Hpp.nil : Hpp [] 0 := fun i _ h => by omega
theorem Hpp.take {xs : List Int} {n : Nat} (h : Hpp xs n) (hn : n ≤ xs.length) : Hpp (xs.take n) n := by
  intro i i0 i1
  rw [getElem!_pos (xs.take n) i (by rw [List.length_take]; omega), getElem!_pos (xs.take n) ((i - 1) / 2) (by rw [List.length_take]; omega), List.getElem_take, List.getElem_take, ← getElem!_pos xs i (by omega), ← getElem!_pos xs ((i - 1) / 2) (by omega)]
  exact h i i0 i1
end Go.Proofs.Ytgijcbipnjmhgab

namespace Go.Proofs.Ytgijcbipnjmhgab
open Go.ChangeShapes Go.WideShapes Go.ChangeAt Go.RowKit
set_option linter.unusedVariables false
set_option linter.unusedSimpArgs false

/-- a number of four bytes -/
structure Hn where
  v : Int
instance : Rw Hn := ⟨1, fun e => [.int .i32 e.v], fun _ => rfl, fun e u h => by simp at h; subst h; rfl, by decide⟩
/-- one block alone may have changed -/
structure One (g : Nat) (w w' : World) : Prop where
  keep : ∀ k, k < w.heap.size → k ≠ g → w'.heap[k]? = w.heap[k]?
  bel : Below g w w'
theorem One.refl (g : Nat) (w : World) : One g w w := ⟨fun _ _ _ => rfl, Below.refl _ _⟩
theorem One.trans {g : Nat} {w v u : World} (h : One g w v) (k : One g v u) : One g w u := ⟨fun i hi hg => (k.keep i (Nat.lt_of_lt_of_le hi h.bel.size) hg).trans (h.keep i hi hg), h.bel.trans k.bel⟩
theorem One.set (g i : Nat) (w : World) (x : Value) : One g w (w.setCell ⟨g, i, none⟩ x) := ⟨fun k _ hk => heap_setCell_other _ _ _ _ hk, (Below.refl _ _).setCell (p := ⟨g, i, none⟩) (Nat.le_refl _) _⟩
theorem One.of {g : Nat} {w w' : World} (h : Below w.heap.size w w') (hg : g ≤ w.heap.size) : One g w w' := ⟨fun k hk _ => h.block k hk, h.mono hg⟩
/-- a row of the call's own, in the block g -/
def Row (B e g n c : Nat) (w : World) (xs : List Hn) : Prop := w.ownsRow B e 1 (.slice (some ⟨g, 0, none⟩) n c) n (flat xs)
theorem Row.len {B e g n c : Nat} {w : World} {xs : List Hn} (h : Row B e g n c w xs) : xs.length = n := by
  have := h.1
  rw [flat_length] at this
  exact Nat.eq_of_mul_eq_mul_right (by decide) this
theorem flat_hn (xs : List Hn) (i : Nat) : (flat xs)[i]? = (xs[i]?).map fun e => Value.int .i32 e.v := by
  have := flat_get xs i 0 (by decide)
  rw [show i * Rw.k Hn + 0 = i by show i * 1 + 0 = i; omega] at this
  rw [this]
  cases xs[i]? <;> rfl
theorem flat_hn_set (xs : List Hn) (i : Nat) (y : Hn) : (flat xs).set i (.int .i32 y.v) = flat (xs.set i y) := by
  apply List.ext_getElem?
  intro j
  rw [flat_hn, List.getElem?_set, List.getElem?_set, flat_hn, flat_length, show xs.length * Rw.k Hn = xs.length from Nat.mul_one _]
  by_cases h : i = j
  · subst h
    by_cases h2 : i < xs.length
    · rw [if_pos rfl, if_pos rfl, if_pos h2, if_pos h2]; rfl
    · rw [if_pos rfl, if_pos rfl, if_neg h2, if_neg h2]; rfl
  · rw [if_neg h, if_neg h]
theorem Row.get {B e g n c : Nat} {w : World} {xs : List Hn} (h : Row B e g n c w xs) {i : Nat} {x : Hn} (hx : xs[i]? = some x) : w.cell? ⟨g, i, none⟩ = some (.int .i32 x.v) := by
  have := h.cells rfl i (.int .i32 x.v) (by rw [flat_hn, hx]; rfl)
  rwa [addr_add, Nat.zero_add] at this
theorem Row.set {B e g n c : Nat} {w : World} {xs : List Hn} (h : Row B e g n c w xs) (i : Nat) (y : Hn) : Row B e g n c (w.setCell ⟨g, i, none⟩ (.int .i32 y.v)) (xs.set i y) := by
  have := (World.ownsRow.stored h i (.int .i32 y.v)).1
  unfold Row
  rw [← flat_hn_set]
  exact this
theorem Row.free {B e g n c : Nat} {w : World} {xs : List Hn} (h : Row B e g n c w xs) (i : Nat) : w.frozen? ⟨g, i, none⟩ = false := World.ownsRow.frozenAt h i
theorem Row.below {B e g n c : Nat} {w w' : World} {xs : List Hn} (h : Row B e g n c w xs) (hb : Below w.heap.size w w') : Row B e g n c w' xs := ownsRow_below h hb (Nat.le_refl _)
theorem Row.lt {B e g n c : Nat} {w : World} {xs : List Hn} (h : Row B e g n c w xs) : g < w.heap.size := (World.ownsRow.lt h g rfl).2
/-- two things change their places -/
def swp (xs : List Hn) (i j : Nat) (x y : Hn) : List Hn := (xs.set i y).set j x
theorem swp_perm {xs : List Hn} {i j : Nat} {x y : Hn} (hi : xs[i]? = some x) (hj : xs[j]? = some y) : (swp xs i j x y).Perm xs := by
  obtain ⟨hil, hix⟩ := List.getElem?_eq_some_iff.1 hi
  obtain ⟨hjl, hjy⟩ := List.getElem?_eq_some_iff.1 hj
  subst hix
  subst hjy
  exact List.set_set_perm hil hjl
end Go.Proofs.Ytgijcbipnjmhgab

namespace Go.Proofs.Ytgijcbipnjmhgab
open Go.ChangeShapes Go.WideShapes Go.ChangeAt Go.RowKit
set_option linter.unusedVariables false

/-- A region that draws its order, over a class of worlds: every operation yields the same in each of them and stays among them (a callee may make memory of its own). -/
theorem region_class {P : Program} {X : Type} (F : X → World) {id : Nat} {Q : Exit → Act → World → Prop} {a : Act} {w : World} {l : List Oper} (hm : P.follows .mixedOrders = true) (hB : Region.lexB .any l.toArray = true)
    (hx : ∃ x, F x = w.drew) (h : wpQuiet P l.toArray (fun w' => ∃ n, w' = F n) (fun a' => ∀ w', (∃ n, w' = F n) → Q .normal a' w') l a) : (Code.region id l.toArray true).wp P Q a w :=
  wp_region_quiet (C := fun w' => ∃ n, w' = F n) hm hB (by obtain ⟨x, hx⟩ := hx; exact ⟨x, hx.symm⟩) (by simpa using h)

/-- the worlds of which D holds, as a row of worlds -/
theorem class_of (D : World → Prop) {w : World} (hw : D w) : ∃ (X : Type) (F : X → World), Nonempty X ∧ (∀ x, D (F x)) ∧ ∀ v, D v → ∃ x, F x = v :=
  ⟨{v : World // D v}, Subtype.val, ⟨⟨w, hw⟩⟩, fun x => x.2, fun v h => ⟨⟨v, h⟩, rfl⟩⟩
end Go.Proofs.Ytgijcbipnjmhgab

namespace Go.Proofs.Ytgijcbipnjmhgab
open Go.ChangeShapes Go.WideShapes Go.ChangeAt Go.RowKit
set_option linter.unusedVariables false

theorem infoInt : (Try.prog.info? 3).map (fun i => (i.zero, i.size, i.bytes)) = some (some (.int .i64 0), 1, 8) := by kernel_rfl
end Go.Proofs.Ytgijcbipnjmhgab

namespace Go.Proofs.Ytgijcbipnjmhgab
open Go.ChangeShapes Go.WideShapes Go.ChangeAt Go.RowKit
set_option linter.unusedVariables false

set_option maxHeartbeats 400000 in
theorem same_ints (a1 a2 : Option Addr) (c1 c2 : Nat) (xs : List Int) (w : World) (h1 : LiesA w a1 xs) (h2 : LiesA w a2 xs) (hl : xs.length ≤ maxLen) :
    Calls Try.prog 8 #[.slice a1 xs.length c1, .slice a2 xs.length c2] w fun e w' => e = .returned (.bool true) ∧ Below w.heap.size w w' := by
  unfold maxLen at hl
  rcases h1 with rfl | ⟨b1, o1, rfl, h1⟩
  · rw [List.length_nil]
    go_enter Try.func8, Try.ntmps8
    go_wp2
    refine wp_loop_rounds 1 ?_
    rw [rounds_succ]
    go_wp2
    go_ret
    exact ⟨rfl, Below.refl _ _⟩
  rcases h2 with rfl | ⟨b2, o2, rfl, h2⟩
  · rw [List.length_nil]
    go_enter Try.func8, Try.ntmps8
    go_wp2
    refine wp_loop_rounds 1 ?_
    rw [rounds_succ]
    go_wp2
    go_ret
    exact ⟨rfl, Below.refl _ _⟩
  have H1 : Hid (Lies w b1 o1 xs) := h1
  have H2 : Hid (Lies w b2 o2 xs) := h2
  have hb1 : b1 < w.heap.size := h1.1
  have hb2 : b2 < w.heap.size := h2.1
  clear h1 h2
  have hne : ((xs.length : Int) != (xs.length : Int)) = false := by simp
  go_enter Try.func8, Try.ntmps8
  go_wp2
  go_loopw [13] (fun i wr => ∃ k : Nat, k ≤ xs.length ∧ i = .int .i64 k ∧ Below w.heap.size w wr) (fun i _ => xs.length - (intOf i).toNat)
  case atStart => exact ⟨0, Nat.zero_le _, rfl, Below.refl _ _⟩
  case round =>
    obtain ⟨k, hk, rfl, hbel⟩ := hrel
    have hsz := hbel.size
    by_cases hlt : k < xs.length
    · obtain ⟨e, he⟩ : ∃ e, xs[k]? = some e := ⟨_, List.getElem?_eq_getElem hlt⟩
      have c0 := H1.out.int hbel he
      have d0 := H2.out.int hbel he
      clear he
      have hlt' : (k : Int) < (xs.length : Int) := by omega
      go_wp2
      go_quiet (fail)
      go_wp2
      go_roundw
      case rel => exact ⟨k + 1, by omega, by go_num, by (repeat (with_reducible refine below_drewN ?_ _)); go_grown⟩
      case measure => simp [intOf]; omega
    · go_wp2
      go_ret
      exact ⟨rfl, by go_grown⟩
end Go.Proofs.Ytgijcbipnjmhgab
