import Derived.Test.YtgijcbipnjmhgabGreatRows
import Derived.WalkKit
import Derived.ProofKit
import Derived.OpenShut
import Derived.ShutString
import Derived.ChangeOld
import Derived.Below
import Derived.Handy
import Derived.Deep.Slices
import Derived.Deep.Strs
import Derived.Deep.LoopGhost
import Derived.Deep.QuietTactic
import Derived.BigQuiet
import Derived.WalkSpells
import Derived.WalkMore
import Derived.WalkSmall
import Derived.Maps.AppendAt
namespace Go.Proofs.YtgijcbipnjmhgabGreat
open Go.ChangeShapes Go.WideShapes Go.ChangeAt Go.RowKit
set_option linter.unusedVariables false

/-- what lies in a fixed number of cells -/
class Rw (α : Type) where
  k : Nat
  cs : α → List Value
  len : ∀ e, (cs e).length = k
  one : ∀ e u, u ∈ cs e → u.oneCell' = true
  pos : 0 < k

/-- the cells of a list, one behind the other -/
def flat {α : Type} [Rw α] (xs : List α) : List Value := xs.flatMap Rw.cs

theorem flat_cons {α : Type} [Rw α] (e : α) (r : List α) : flat (e :: r) = Rw.cs e ++ flat r := by simp [flat]

theorem flat_nil {α : Type} [Rw α] : flat ([] : List α) = [] := rfl

theorem flat_length {α : Type} [Rw α] (xs : List α) : (flat xs).length = xs.length * Rw.k α := by
  induction xs with
  | nil => simp [flat]
  | cons e r ih => rw [flat_cons, List.length_append, Rw.len, ih, List.length_cons, Nat.add_mul, Nat.one_mul, Nat.add_comm]

theorem flat_append {α : Type} [Rw α] (xs ys : List α) : flat (xs ++ ys) = flat xs ++ flat ys := by simp [flat]

theorem flat_get {α : Type} [Rw α] (xs : List α) (i r : Nat) (hr : r < Rw.k α) : (flat xs)[i * Rw.k α + r]? = (xs[i]?).bind fun e => (Rw.cs e)[r]? := by
  induction xs generalizing i with
  | nil => simp [flat]
  | cons e t ih =>
    rw [flat_cons]
    match i with
    | 0 =>
      rw [Nat.zero_mul, Nat.zero_add, List.getElem?_append_left (by rw [Rw.len]; exact hr)]
      rfl
    | i + 1 =>
      have h : (i + 1) * Rw.k α + r = Rw.k α + (i * Rw.k α + r) := by rw [Nat.add_mul, Nat.one_mul]; omega
      rw [List.getElem?_append_right (by rw [Rw.len]; omega), Rw.len, h, Nat.add_sub_cancel_left, ih]
      rfl

theorem flat_oneCell {α : Type} [Rw α] (xs : List α) : ∀ u ∈ flat xs, u.oneCell' = true := by
  intro u hu
  simp only [flat, List.mem_flatMap] at hu
  obtain ⟨e, _, h⟩ := hu
  exact Rw.one e u h

/-- the cells of a list, from a place on -/
def Lies {α : Type} [Rw α] (w : World) (b o : Nat) (xs : List α) : Prop :=
  b < w.heap.size ∧ ∀ j u, (flat xs)[j]? = some u → w.cell? ⟨b, o + j, none⟩ = some u

/-- .. or nothing, wherever it lies -/
def LiesA {α : Type} [Rw α] (w : World) (a : Option Addr) (xs : List α) : Prop := xs = [] ∨ ∃ b o, a = some ⟨b, o, none⟩ ∧ Lies w b o xs

theorem addr_add (b o j : Nat) : (⟨b, o, none⟩ : Addr).add j = ⟨b, o + j, none⟩ := by
  unfold Addr.add; by_cases hz : j = 0 <;> simp [hz]

theorem Lies.below {α : Type} [Rw α] {B : Nat} {w w' : World} {b o : Nat} {xs : List α} (h : Lies w b o xs) (hb : Below B w w') (hB : b < B) : Lies w' b o xs :=
  ⟨Nat.lt_of_lt_of_le h.1 hb.size, fun j u hj => (hb.cell (p := ⟨b, _, none⟩) hB).trans (h.2 j u hj)⟩

theorem LiesA.below {α : Type} [Rw α] {w w' : World} {a : Option Addr} {xs : List α} (h : LiesA w a xs) (hb : Below w.heap.size w w') : LiesA w' a xs := by
  rcases h with h | ⟨b, o, ha, h⟩
  · exact .inl h
  · exact .inr ⟨b, o, ha, h.below hb h.1⟩

theorem Lies.flat {α : Type} [Rw α] {w : World} {b o : Nat} {xs : List α} (h : Lies w b o xs) : ∀ j u, (flat xs)[j]? = some u → w.cell? ((⟨b, o, none⟩ : Addr).add j) = some u := by
  intro j u hj
  rw [addr_add]
  exact h.2 j u hj

theorem Lies.of_flat {α : Type} [Rw α] {w : World} {b o : Nat} {xs : List α} (hb : b < w.heap.size) (h : ∀ j u, (_root_.Go.Proofs.YtgijcbipnjmhgabGreat.flat xs)[j]? = some u → w.cell? ((⟨b, o, none⟩ : Addr).add j) = some u) : Lies w b o xs :=
  ⟨hb, fun j u hj => by rw [← addr_add]; exact h j u hj⟩

theorem Lies.get {α : Type} [Rw α] {w : World} {b o : Nat} {xs : List α} (h : Lies w b o xs) {i : Nat} {e : α} (he : xs[i]? = some e) (r : Nat) (u : Value) (hu : (Rw.cs e)[r]? = some u) :
    w.cell? ⟨b, o + (i * Rw.k α + r), none⟩ = some u := by
  refine h.2 _ u ?_
  rw [flat_get xs i r (by have := (List.getElem?_eq_some_iff.1 hu).1; rw [Rw.len] at this; exact this), he]
  exact hu

theorem Lies.pre {α : Type} [Rw α] {w : World} {b o : Nat} {xs ys : List α} (h : Lies w b o (xs ++ ys)) : Lies w b o xs := by
  refine ⟨h.1, fun j u hj => h.2 j u ?_⟩
  rw [flat_append, List.getElem?_append_left (List.getElem?_eq_some_iff.1 hj).1]
  exact hj

/-- a row of the call's own -/
theorem Lies.own {α : Type} [Rw α] {w : World} {base e n cap g : Nat} {xs : List α} (h : w.ownsRow base e (Rw.k α) (.slice (some ⟨g, 0, none⟩) n cap) n (_root_.Go.Proofs.YtgijcbipnjmhgabGreat.flat xs)) : Lies w g 0 xs :=
  Lies.of_flat (h.lt g rfl).2 (h.cells rfl)

theorem cells_new (w : World) (l : List Value) (t : TypeId) : ∀ j u, l[j]? = some u → (w.alloc (.cells l.toArray t)).cell? ((⟨w.heap.size, 0, none⟩ : Addr).add j) = some u := by
  intro j u hj
  rw [addr_add, World.cell?_alloc_at _ _ _ _ rfl]
  simpa using hj

theorem ownsRow_below {w w' : World} {base e size n B : Nat} {v : Value} {xs : List Value} (h : w.ownsRow base e size v n xs) (hb : Below B w w') (hB : w.heap.size ≤ B) : w'.ownsRow base e size v n xs := by
  obtain ⟨h1, h2⟩ := h
  refine ⟨h1, ?_⟩
  rcases h2 with h2 | ⟨g, cap, cur, hv, hg, hh, r⟩
  · exact .inl h2
  · exact .inr ⟨g, cap, cur, hv, hg, (hb.block g (Nat.lt_of_lt_of_le (lt_of_block hh) hB)).trans hh, r⟩

/-- what the call has built, as a slice -/
theorem own_form {α : Type} [Rw α] {w : World} {base e n : Nat} {v : Value} {xs : List α} (h : w.ownsRow base e (Rw.k α) v n (flat xs)) : ∃ a cap, v = .slice a n cap ∧ LiesA w a xs ∧ n = xs.length ∧ (a = none → n = 0 ∧ cap = 0) := by
  have hn : n = xs.length := by
    have := h.1; rw [flat_length] at this
    exact Nat.eq_of_mul_eq_mul_right (Rw.pos (α := α)) this.symm
  rcases h.2 with ⟨h1, h2⟩ | ⟨g, cap, cur, hv, hg, hh, r⟩
  · refine ⟨none, 0, by rw [h1, h2], .inl (List.eq_nil_of_length_eq_zero (by omega)), hn, fun _ => ⟨h2, rfl⟩⟩
  · subst hv
    exact ⟨some ⟨g, 0, none⟩, cap, rfl, .inr ⟨g, 0, rfl, Lies.own h⟩, hn, fun h => by cases h⟩

/-- a piece -/
structure Tk where
  k : Int
  f : Int
  t : Int

/-- a node -/
structure Nd where
  k : Int
  f : Int
  e : Int
  s : Int

instance : Rw Tk := ⟨3, fun e => [.int .u8 e.k, .int .i64 e.f, .int .i64 e.t], fun _ => rfl, fun e u h => by simp at h; rcases h with rfl | rfl | rfl <;> rfl, by decide⟩
instance : Rw Nd := ⟨4, fun e => [.int .u8 e.k, .int .i64 e.f, .int .i64 e.e, .int .i64 e.s], fun _ => rfl, fun e u h => by simp at h; rcases h with rfl | rfl | rfl | rfl <;> rfl, by decide⟩
instance : Rw Int := ⟨1, fun e => [.int .i64 e], fun _ => rfl, fun e u h => by simp at h; subst h; rfl, by decide⟩

theorem Lies.nd {w : World} {b o : Nat} {xs : List Nd} (h : Lies w b o xs) {w' : World} (hb : Below w.heap.size w w') {i : Nat} {e : Nd} (he : xs[i]? = some e) :
    w'.cell? ⟨b, o + i * 4, none⟩ = some (.int .u8 e.k) ∧ w'.cell? ⟨b, o + i * 4 + 1, none⟩ = some (.int .i64 e.f) ∧ w'.cell? ⟨b, o + i * 4 + 2, none⟩ = some (.int .i64 e.e) ∧ w'.cell? ⟨b, o + i * 4 + 3, none⟩ = some (.int .i64 e.s) := by
  have h' := h.below hb h.1
  exact ⟨h'.get he 0 _ rfl, h'.get he 1 _ rfl, h'.get he 2 _ rfl, h'.get he 3 _ rfl⟩

theorem Lies.int {w : World} {b o : Nat} {xs : List Int} (h : Lies w b o xs) {w' : World} (hb : Below w.heap.size w w') {i : Nat} {e : Int} (he : xs[i]? = some e) :
    w'.cell? ⟨b, o + i, none⟩ = some (.int .i64 e) := by
  have h' := h.below hb h.1
  have := h'.get he 0 _ rfl
  rwa [show o + (i * Rw.k Int + 0) = o + i by show o + (i * 1 + 0) = o + i; omega] at this

/-- a struct of one cell that was put into a variable of its own -/
theorem box1 {w : World} {v : Value} {t : TypeId} {wr : World} (h : Below (w.heap.size + 1) (w.alloc (.cells #[v] t)) wr) :
    Below w.heap.size w wr ∧ wr.cell? ⟨w.heap.size, 0, none⟩ = some v ∧ w.heap.size + 1 ≤ wr.heap.size := by
  refine ⟨((Below.refl _ _).alloc (Nat.le_refl _) _).trans (h.mono (by omega)), ?_, by have := h.size; simpa using this⟩
  have := h.cell (p := ⟨w.heap.size, 0, none⟩) (by simp)
  rw [this, World.cell?_alloc_at _ _ _ _ rfl]
  rfl

theorem box2 {w : World} {v1 v2 : Value} {t1 t2 : TypeId} {wr : World} (h : Below (w.heap.size + 2) ((w.alloc (.cells #[v1] t1)).alloc (.cells #[v2] t2)) wr) :
    Below w.heap.size w wr ∧ wr.cell? ⟨w.heap.size, 0, none⟩ = some v1 ∧ wr.cell? ⟨w.heap.size + 1, 0, none⟩ = some v2 ∧ w.heap.size + 2 ≤ wr.heap.size := by
  have h' : Below ((w.alloc (.cells #[v1] t1)).heap.size + 1) ((w.alloc (.cells #[v1] t1)).alloc (.cells #[v2] t2)) wr := by simpa using h
  obtain ⟨g1, g2, g3⟩ := box1 h'
  obtain ⟨k1, k2, k3⟩ := box1 (w := w) (v := v1) (t := t1) (g1.mono (by simp))
  refine ⟨k1, k2, by simpa using g2, by simpa using g3⟩

/-- a block of the call's own -/
def Bx (w : World) (g : Nat) (vs : Array Value) (t : TypeId) : Prop := w.heap[g]? = some (.cells vs t (0, 0))
theorem Bx.lt {w : World} {g : Nat} {vs : Array Value} {t : TypeId} (h : Bx w g vs t) : g < w.heap.size := lt_of_block h
theorem Bx.cell {w : World} {g : Nat} {vs : Array Value} {t : TypeId} (h : Bx w g vs t) (i : Nat) : w.cell? ⟨g, i, none⟩ = vs[i]? := by simp [World.cell?, show w.heap[g]? = _ from h]
theorem Bx.one {w : World} {g : Nat} {x : Value} {t : TypeId} (h : Bx w g #[x] t) : w.cell? ⟨g, 0, none⟩ = some x := h.cell 0
theorem Bx.free {w : World} {g : Nat} {vs : Array Value} {t : TypeId} (h : Bx w g vs t) (i : Nat) : w.frozen? ⟨g, i, none⟩ = false := by simp [World.frozen?, show w.heap[g]? = _ from h]
theorem Bx.drew {w : World} {g : Nat} {vs : Array Value} {t : TypeId} (h : Bx w g vs t) : Bx w.drew g vs t := h
theorem Bx.below {B : Nat} {w w' : World} {g : Nat} {vs : Array Value} {t : TypeId} (h : Bx w g vs t) (hb : Below B w w') (hg : g < B) : Bx w' g vs t := (hb.block g hg).trans h
theorem Bx.new (w : World) (vs : Array Value) (t : TypeId) : Bx (w.alloc (.cells vs t)) w.heap.size vs t := heap_alloc_new w _
theorem Bx.other {w : World} {g : Nat} {vs : Array Value} {t : TypeId} (h : Bx w g vs t) (a : Addr) (hne : g ≠ a.block) (v : Value) : Bx (w.setCell a v) g vs t := (heap_setCell_other w a g v hne).trans h
theorem Bx.set {w : World} {g : Nat} {vs : Array Value} {t : TypeId} (h : Bx w g vs t) (i : Nat) (v : Value) : Bx (w.setCell ⟨g, i, none⟩ v) g (vs.setIfInBounds i v) t := by
  have := heap_setCell_same w g i _ _ v h
  simpa [Bx] using this
theorem own_base {w : World} {base base' e size n : Nat} {v : Value} {xs : List Value} (h : w.ownsRow base e size v n xs) (hb : base' ≤ base) : w.ownsRow base' e size v n xs := by
  refine ⟨h.1, ?_⟩
  rcases h.2 with h2 | ⟨g, cap, cur, h3, h4, r⟩
  · exact .inl h2
  · exact .inr ⟨g, cap, cur, h3, Nat.le_trans hb h4, r⟩

theorem bx1 (w : World) (v1 : Array Value) (t1 : TypeId) : ∃ w2, w.alloc (.cells v1 t1) = w2 ∧ Below w.heap.size w w2 ∧ w2.heap.size = w.heap.size + 1 ∧ Bx w2 w.heap.size v1 t1 :=
  ⟨_, rfl, (Below.refl _ _).alloc (Nat.le_refl _) _, by simp, Bx.new _ _ _⟩

end Go.Proofs.YtgijcbipnjmhgabGreat

namespace Go.Proofs.YtgijcbipnjmhgabGreat
open Go.ChangeShapes Go.WideShapes Go.ChangeAt Go.RowKit
set_option linter.unusedVariables false
set_option linter.unusedSimpArgs false

/-- a list that stands on a shelf: the slice, how many things, their cells -/
structure Rr where
  v : Value
  n : Nat
  xs : List Value
/-- two lists share no memory -/
def ApR (p q : Rr) : Prop := ∀ g, p.v.ownBlock = some g → q.v.ownBlock ≠ some g
/-- the lists on a shelf (rs) and what they were (us), in the two rows V and U -/
structure She (e te : TypeId) (k B : Nat) (w : World) (V U : Value) (rs us : List Rr) : Prop where
  outV : w.ownsRow B te 1 V rs.length (rs.map Rr.v)
  outU : w.ownsRow B te 1 U us.length (us.map Rr.v)
  each : ∀ r ∈ rs ++ us, w.ownsRow B e k r.v r.n r.xs
  apart : (rs ++ us).Pairwise ApR
  outs : ∀ g, V.ownBlock = some g → U.ownBlock ≠ some g
theorem row_kindR {w : World} {B s : Nat} {e : TypeId} {v : Value} {n : Nat} {xs : List Value} (h : w.ownsRow B e s v n xs) : ∀ g, v.ownBlock = some g → ∃ c fz, w.heap[g]? = some (.cells c e fz) := by
  intro g hg
  rcases h.2 with ⟨rfl, _⟩ | ⟨g', cap, cur, rfl, _, hh, _⟩
  · cases hg
  · cases hg
    exact ⟨_, _, hh⟩
theorem own_otherR {e e' : TypeId} {B B' s s' n n' : Nat} {v v' : Value} {xs xs' : List Value} {w : World} (h : w.ownsRow B e s v n xs) (h' : w.ownsRow B' e' s' v' n' xs') (hne : e' ≠ e) {g : Nat} (hg : v'.ownBlock = some g) : v.ownBlock ≠ some g := by
  intro h1
  obtain ⟨c, fz, hh⟩ := row_kindR h g h1
  obtain ⟨c', fz', hh'⟩ := row_kindR h' g hg
  rw [hh] at hh'
  cases hh'
  exact hne rfl
/-- a row stands while all blocks but one stand -/
theorem own_grwR {e : TypeId} {B s n : Nat} {v : Value} {xs : List Value} {w w' : World} {row : Option Nat} (h : w.ownsRow B e s v n xs) (hg : w.grownBy w' row) (hr : ∀ g, row = some g → v.ownBlock ≠ some g) : w'.ownsRow B e s v n xs := by
  refine ⟨h.1, ?_⟩
  rcases h.2 with k | ⟨g, cap, cur, hv, hgb, hh, r⟩
  · exact .inl k
  · refine .inr ⟨g, cap, cur, hv, hgb, ?_, r⟩
    rw [hg.block g (lt_of_block hh) (fun hrow => ?_)]
    · exact hh
    · exact hr g hrow.symm (by rw [hv]; rfl)
theorem own_belowR {w w' : World} {base e size n B : Nat} {v : Value} {xs : List Value} (h : w.ownsRow base e size v n xs) (hb : Below B w w') (hB : w.heap.size ≤ B) : w'.ownsRow base e size v n xs := by
  obtain ⟨h1, h2⟩ := h
  refine ⟨h1, ?_⟩
  rcases h2 with h2 | ⟨g, cap, cur, hv, hg, hh, r⟩
  · exact .inl h2
  · exact .inr ⟨g, cap, cur, hv, hg, (hb.block g (Nat.lt_of_lt_of_le (lt_of_block hh) hB)).trans hh, r⟩
theorem She.below {e te : TypeId} {k B : Nat} {w w' : World} {V U : Value} {rs us : List Rr} (h : She e te k B w V U rs us) (hb : Below w.heap.size w w') : She e te k B w' V U rs us :=
  ⟨own_belowR h.outV hb (Nat.le_refl _), own_belowR h.outU hb (Nat.le_refl _), fun r hr => own_belowR (h.each r hr) hb (Nat.le_refl _), h.apart, h.outs⟩
theorem She.nil (e te : TypeId) (k B : Nat) (w : World) : She e te k B w (.slice none 0 0) (.slice none 0 0) [] [] :=
  ⟨World.ownsRow_nil _ _ _ _, World.ownsRow_nil _ _ _ _, (fun r hr => by cases hr), List.Pairwise.nil, fun g h => by cases h⟩
/-- a list's place in the row -/
theorem She.get {e te : TypeId} {k B : Nat} {w : World} {V U : Value} {rs us : List Rr} (h : She e te k B w V U rs us) {i : Nat} {r : Rr} (hr : rs[i]? = some r) : w.ownsRow B e k r.v r.n r.xs := h.each r (List.mem_append_left _ (List.mem_of_getElem? hr))
theorem She.getU {e te : TypeId} {k B : Nat} {w : World} {V U : Value} {rs us : List Rr} (h : She e te k B w V U rs us) {i : Nat} {r : Rr} (hr : us[i]? = some r) : w.ownsRow B e k r.v r.n r.xs := h.each r (List.mem_append_right _ (List.mem_of_getElem? hr))
theorem own_slice {w : World} {B s n : Nat} {e : TypeId} {v : Value} {xs : List Value} (h : w.ownsRow B e s v n xs) : ∃ a c, v = .slice a n c ∧ (0 < n → ∃ g, a = some ⟨g, 0, none⟩) ∧ (a = none → n = 0 ∧ c = 0) := by
  rcases h.2 with ⟨hv, h0⟩ | ⟨g, c, cur, hv, _⟩
  · exact ⟨none, 0, by rw [hv, h0], fun h => by omega, fun _ => ⟨h0, rfl⟩⟩
  · exact ⟨some ⟨g, 0, none⟩, c, hv, fun _ => ⟨g, rfl⟩, fun h => by cases h⟩
/-- the i-th slice, as the row's cell -/
theorem She.cellV {e te : TypeId} {k B : Nat} {w : World} {V U : Value} {rs us : List Rr} (h : She e te k B w V U rs us) {i : Nat} {r : Rr} (hr : rs[i]? = some r) : ∃ g c, V = .slice (some ⟨g, 0, none⟩) rs.length c ∧ w.cell? ⟨g, i, none⟩ = some r.v ∧ w.frozen? ⟨g, i, none⟩ = false := by
  have hi := (List.getElem?_eq_some_iff.1 hr).1
  obtain ⟨a, c, hv, ha, -⟩ := own_slice h.outV
  obtain ⟨g, rfl⟩ := ha (by omega)
  have hown := h.outV
  rw [hv] at hown
  refine ⟨g, c, hv, ?_, hown.frozenAt i⟩
  have := hown.cells rfl i r.v (by rw [List.getElem?_map, hr]; rfl)
  rw [show (⟨g, 0, none⟩ : Addr).add i = ⟨g, i, none⟩ by unfold Addr.add; by_cases hz : i = 0 <;> simp [hz]] at this
  exact this
theorem She.cellU {e te : TypeId} {k B : Nat} {w : World} {V U : Value} {rs us : List Rr} (h : She e te k B w V U rs us) {i : Nat} {r : Rr} (hr : us[i]? = some r) : ∃ g c, U = .slice (some ⟨g, 0, none⟩) us.length c ∧ w.cell? ⟨g, i, none⟩ = some r.v := by
  have hi := (List.getElem?_eq_some_iff.1 hr).1
  obtain ⟨a, c, hv, ha, -⟩ := own_slice h.outU
  obtain ⟨g, rfl⟩ := ha (by omega)
  have hown := h.outU
  rw [hv] at hown
  refine ⟨g, c, hv, ?_⟩
  have := hown.cells rfl i r.v (by rw [List.getElem?_map, hr]; rfl)
  rw [show (⟨g, 0, none⟩ : Addr).add i = ⟨g, i, none⟩ by unfold Addr.add; by_cases hz : i = 0 <;> simp [hz]] at this
  exact this
/-- lists that stand apart from the i-th -/
theorem apt_other {rs us : List Rr} (h : (rs ++ us).Pairwise ApR) {i : Nat} {r : Rr} (hr : rs[i]? = some r) {g : Nat} (hg : r.v.ownBlock = some g) : (∀ j q, j ≠ i → rs[j]? = some q → q.v.ownBlock ≠ some g) ∧ ∀ q ∈ us, q.v.ownBlock ≠ some g := by
  have hi := (List.getElem?_eq_some_iff.1 hr)
  rw [List.pairwise_append] at h
  obtain ⟨h1, h2, h3⟩ := h
  refine ⟨fun j q hj hq => ?_, fun q hq => h3 r (List.mem_of_getElem? hr) q hq g hg⟩
  have hjq := List.getElem?_eq_some_iff.1 hq
  rw [List.pairwise_iff_getElem] at h1
  rcases Nat.lt_or_gt_of_ne hj with hlt | hgt
  · have := h1 j i hjq.1 hi.1 hlt
    rw [hjq.2, hi.2] at this
    intro he
    exact this g he hg
  · have := h1 i j hi.1 hjq.1 hgt
    rw [hjq.2, hi.2] at this
    exact this g hg
/-- a thing of the i-th list is written over -/
theorem She.store {e te : TypeId} {k B : Nat} {w : World} {V U : Value} {rs us : List Rr} (h : She e te k B w V U rs us) (hne : te ≠ e) {i : Nat} {r : Rr} (hr : rs[i]? = some r) {g c : Nat} (hv : r.v = .slice (some ⟨g, 0, none⟩) r.n c) (m : Nat) (u : Value) :
    She e te k B (w.setCell ⟨g, m, none⟩ u) V U (rs.set i ⟨r.v, r.n, r.xs.set m u⟩) us := by
  have hg : r.v.ownBlock = some g := by rw [hv]; rfl
  have hro := h.get hr
  have hi := (List.getElem?_eq_some_iff.1 hr)
  obtain ⟨ho, hu⟩ := apt_other h.apart hr hg
  have hmap : (rs.set i ⟨r.v, r.n, r.xs.set m u⟩).map Rr.v = rs.map Rr.v := by
    apply List.ext_getElem?
    intro j
    rw [List.getElem?_map, List.getElem?_map, List.getElem?_set]
    by_cases hj : i = j
    · subst hj; rw [if_pos rfl, if_pos hi.1, hr]; rfl
    · rw [if_neg hj]
  refine ⟨?_, ?_, fun q hq => ?_, ?_, h.outs⟩
  · rw [List.length_set, hmap]
    exact ownsRow_setCell_other h.outV (a := ⟨g, m, none⟩) (own_otherR h.outV hro (fun h => hne h.symm) hg) u
  · exact ownsRow_setCell_other h.outU (a := ⟨g, m, none⟩) (own_otherR h.outU hro (fun h => hne h.symm) hg) u
  · rcases List.mem_append.1 hq with hq | hq
    · obtain ⟨j, hj⟩ := List.getElem?_of_mem hq
      rw [List.getElem?_set] at hj
      by_cases hji : i = j
      · rw [if_pos hji, if_pos hi.1] at hj
        have := (Option.some.inj hj).symm
        subst this
        show (w.setCell ⟨g, m, none⟩ u).ownsRow B e k r.v r.n (r.xs.set m u)
        rw [hv] at hro ⊢
        exact (hro.stored m u).1
      · rw [if_neg hji] at hj
        exact ownsRow_setCell_other (h.get hj) (a := ⟨g, m, none⟩) (ho j q (fun e => hji e.symm) hj) u
    · exact ownsRow_setCell_other (h.each q (List.mem_append_right _ hq)) (a := ⟨g, m, none⟩) (hu q hq) u
  · have h2 := h.apart
    rw [List.pairwise_iff_getElem] at h2 ⊢
    intro a b ha hb hab
    have key : ∀ a (ha : a < (rs.set i ⟨r.v, r.n, r.xs.set m u⟩ ++ us).length), ((rs.set i ⟨r.v, r.n, r.xs.set m u⟩ ++ us)[a]'ha).v = ((rs ++ us)[a]'(by simpa using ha)).v := by
      intro a ha
      by_cases hal : a < rs.length
      · rw [List.getElem_append_left (by simpa using hal), List.getElem_append_left hal, List.getElem_set]
        split
        · rename_i e; subst e; rw [hi.2]
        · rfl
      · rw [List.getElem_append_right (by simp; omega), List.getElem_append_right (by omega)]
        simp
    have := h2 a b (by simpa using ha) (by simpa using hb) hab
    unfold ApR at this ⊢
    rw [key a ha, key b hb]
    exact this
theorem ApR.symm {p q : Rr} (h : ApR p q) : ApR q p := fun g hq hp => h g hp hq
/-- two shelves whose slices are the same but for the i-th -/
theorem apart_set {rs us : List Rr} (h : (rs ++ us).Pairwise ApR) {i : Nat} {r r' : Rr} (hr : rs[i]? = some r) (h1 : ∀ j q, j ≠ i → rs[j]? = some q → ApR q r') (h2 : ∀ q ∈ us, ApR r' q) : (rs.set i r' ++ us).Pairwise ApR := by
  have hi := (List.getElem?_eq_some_iff.1 hr).1
  rw [List.pairwise_append] at h ⊢
  obtain ⟨k1, k2, k3⟩ := h
  refine ⟨?_, k2, fun p hp q hq => ?_⟩
  · rw [List.pairwise_iff_getElem] at k1 ⊢
    intro a b ha hb hab
    rw [List.length_set] at ha hb
    rw [List.getElem_set, List.getElem_set]
    split
    · split
      · omega
      · rename_i e1 e2
        exact (h1 b _ (fun e => e2 e.symm) (List.getElem?_eq_getElem hb)).symm
    · rename_i e1
      split
      · exact h1 a _ (fun e => e1 e.symm) (List.getElem?_eq_getElem ha)
      · exact k1 a b ha hb hab
  · obtain ⟨j, hj⟩ := List.getElem?_of_mem hp
    rw [List.getElem?_set] at hj
    by_cases hji : i = j
    · rw [if_pos hji, if_pos hi] at hj
      rw [← Option.some.inj hj]
      exact h2 q hq
    · rw [if_neg hji] at hj
      exact k3 p (List.mem_of_getElem? hj) q hq
/-- a list grows -/
theorem She.grow {e te : TypeId} {k B : Nat} {w w9 : World} {V U v9 : Value} {rs us : List Rr} (h : She e te k B w V U rs us) (hne : te ≠ e) {i m : Nat} {r : Rr} {news : List Value} (hr : rs[i]? = some r) (hown : w9.ownsRow B e k v9 (r.n + m) (r.xs ++ news)) (hg : w.grownBy w9 r.v.ownBlock) (hat : v9.ownBlock = r.v.ownBlock ∨ v9.ownBlock = some w.heap.size) {gV cV : Nat} (hV : V = .slice (some ⟨gV, 0, none⟩) rs.length cV) :
    She e te k B (w9.setCell ⟨gV, i, none⟩ v9) V U (rs.set i ⟨v9, r.n + m, r.xs ++ news⟩) us := by
  have hi := (List.getElem?_eq_some_iff.1 hr).1
  have hro := h.get hr
  have hgV : V.ownBlock = some gV := by rw [hV]; rfl
  have hoV : w9.ownsRow B te 1 V rs.length (rs.map Rr.v) := own_grwR h.outV hg (fun g hrow => own_otherR h.outV hro (fun e => hne e.symm) hrow)
  have hoU : w9.ownsRow B te 1 U us.length (us.map Rr.v) := own_grwR h.outU hg (fun g hrow => own_otherR h.outU hro (fun e => hne e.symm) hrow)
  have hoth : ∀ q, (∀ g, r.v.ownBlock = some g → q.v.ownBlock ≠ some g) → q ∈ rs ++ us → w9.ownsRow B e k q.v q.n q.xs := fun q hq hm => own_grwR (h.each q hm) hg hq
  have hlt : ∀ q ∈ rs ++ us, ∀ g, q.v.ownBlock = some g → g < w.heap.size := fun q hq g hgq => ((h.each q hq).lt g hgq).2
  have hmap : (rs.set i ⟨v9, r.n + m, r.xs ++ news⟩).map Rr.v = (rs.map Rr.v).set i v9 := by rw [List.map_set]
  refine ⟨?_, ?_, fun q hq => ?_, ?_, h.outs⟩
  · rw [List.length_set, hmap]
    rw [hV] at hoV ⊢
    exact (hoV.stored i v9).1
  · exact ownsRow_setCell_other hoU (a := ⟨gV, i, none⟩) (h.outs gV hgV) v9
  · rcases List.mem_append.1 hq with hq | hq
    · obtain ⟨j, hj⟩ := List.getElem?_of_mem hq
      rw [List.getElem?_set] at hj
      by_cases hji : i = j
      · rw [if_pos hji, if_pos hi] at hj
        rw [← Option.some.inj hj]
        exact ownsRow_setCell_other hown (a := ⟨gV, i, none⟩) (own_otherR hown hoV hne hgV) v9
      · rw [if_neg hji] at hj
        have hq9 := hoth q (fun g hrow => (apt_other h.apart hr hrow).1 j q (fun e => hji e.symm) hj) (List.mem_append_left _ (List.mem_of_getElem? hj))
        exact ownsRow_setCell_other hq9 (a := ⟨gV, i, none⟩) (own_otherR hq9 hoV hne hgV) v9
    · have hq9 := hoth q (fun g hrow => (apt_other h.apart hr hrow).2 q hq) (List.mem_append_right _ hq)
      exact ownsRow_setCell_other hq9 (a := ⟨gV, i, none⟩) (own_otherR hq9 hoV hne hgV) v9
  · refine apart_set h.apart hr (fun j q hj hq g hqg hv => ?_) (fun q hq g hv hqg => ?_)
    · rcases hat with hat | hat
      · rw [hat] at hv
        exact (apt_other h.apart hr hv).1 j q hj hq hqg
      · rw [hat] at hv
        have h1 := hlt q (List.mem_append_left _ (List.mem_of_getElem? hq)) g hqg
        have h2 := Option.some.inj hv
        omega
    · rcases hat with hat | hat
      · rw [hat] at hv
        exact (apt_other h.apart hr hv).2 q hq hqg
      · rw [hat] at hv
        have h1 := hlt q (List.mem_append_right _ hq) g hqg
        have h2 := Option.some.inj hv
        omega
/-- a list more on the shelf -/
theorem She.add {e te : TypeId} {k B : Nat} {w w9 : World} {V U V9 : Value} {rs us : List Rr} (h : She e te k B w V U rs us) (hne : te ≠ e) {L : Rr} (hL : w.ownsRow B e k L.v L.n L.xs) (hap : ∀ q ∈ rs ++ us, ApR q L) (hown : w9.ownsRow B te 1 V9 (rs.length + 1) (rs.map Rr.v ++ [L.v])) (hg : w.grownBy w9 V.ownBlock) (hat : V9.ownBlock = V.ownBlock ∨ V9.ownBlock = some w.heap.size) :
    She e te k B w9 V9 U (rs ++ [L]) us := by
  have hrow : ∀ {q : Rr}, w.ownsRow B e k q.v q.n q.xs → w9.ownsRow B e k q.v q.n q.xs := fun hq => own_grwR hq hg (fun g hV => own_otherR hq h.outV hne hV)
  refine ⟨?_, own_grwR h.outU hg (fun g hV => h.outs g hV), fun q hq => ?_, ?_, fun g hV hU => ?_⟩
  · rw [List.length_append, List.map_append]; exact hown
  · rw [List.append_assoc] at hq
    rcases List.mem_append.1 hq with hq | hq
    · exact hrow (h.each q (List.mem_append_left _ hq))
    · rcases List.mem_append.1 hq with hq | hq
      · rw [List.mem_singleton] at hq; subst hq; exact hrow hL
      · exact hrow (h.each q (List.mem_append_right _ hq))
  · have h1 := h.apart
    rw [List.pairwise_append] at h1
    obtain ⟨k1, k2, k3⟩ := h1
    rw [List.append_assoc, List.pairwise_append]
    refine ⟨k1, List.pairwise_cons.2 ⟨fun q hq => (hap q (List.mem_append_right _ hq)).symm, k2⟩, fun p hp q hq => ?_⟩
    rcases List.mem_cons.1 hq with rfl | hq
    · exact hap p (List.mem_append_left _ hp)
    · exact k3 p hp q hq
  · rcases hat with hat | hat
    · rw [hat] at hV; exact h.outs g hV hU
    · rw [hat] at hV
      have h1 := (h.outU.lt g hU).2
      have h2 := Option.some.inj hV
      omega
theorem She.addU {e te : TypeId} {k B : Nat} {w w9 : World} {V U U9 : Value} {rs us : List Rr} (h : She e te k B w V U rs us) (hne : te ≠ e) {L : Rr} (hL : w.ownsRow B e k L.v L.n L.xs) (hap : ∀ q ∈ rs ++ us, ApR q L) (hown : w9.ownsRow B te 1 U9 (us.length + 1) (us.map Rr.v ++ [L.v])) (hg : w.grownBy w9 U.ownBlock) (hat : U9.ownBlock = U.ownBlock ∨ U9.ownBlock = some w.heap.size) :
    She e te k B w9 V U9 rs (us ++ [L]) := by
  have hrow : ∀ {q : Rr}, w.ownsRow B e k q.v q.n q.xs → w9.ownsRow B e k q.v q.n q.xs := fun hq => own_grwR hq hg (fun g hV => own_otherR hq h.outU hne hV)
  refine ⟨own_grwR h.outV hg (fun g hU hV => h.outs g hV hU), ?_, fun q hq => ?_, ?_, fun g hV hU => ?_⟩
  · rw [List.length_append, List.map_append]; exact hown
  · rw [← List.append_assoc] at hq
    rcases List.mem_append.1 hq with hq | hq
    · exact hrow (h.each q hq)
    · rw [List.mem_singleton] at hq; subst hq; exact hrow hL
  · rw [← List.append_assoc, List.pairwise_append]
    exact ⟨h.apart, List.pairwise_singleton _ _, fun p hp q hq => by rw [List.mem_singleton] at hq; subst hq; exact hap p hp⟩
  · rcases hat with hat | hat
    · rw [hat] at hU; exact h.outs g hV hU
    · rw [hat] at hU
      have h1 := (h.outV.lt g hV).2
      have h2 := Option.some.inj hU
      omega
/-- 'append' onto a slice of the call's own, which may grow, from whatever source: nil, or one that lies somewhere -/
theorem wpList_append_at {P : Program} (w : World) {ops : Array Oper} {rest : List Oper} {o : Oper} {a : Act} {Q : Exit → Act → World → Prop} (hgd : o.guard = none) (s x : Operand) (t : TypeId)
    (ho : o.op = .call { callee := .builtin .append, args := #[s, x], argTypes := #[t, t] })
    (base : Nat) (e : TypeId) (i : TypeInfo) (z : Value) (size bytes : Nat) (ht : P.underlying t = some (.slice e)) (hi : P.info? e = some i) (hz : i.zero = some z)
    (hsize : i.size = size) (hby : i.bytes = bytes) (hzs : z.cells.size = size) (hsz : 0 < size)
    (v : Value) (n : Nat) (xs : List Value) (hs : a.eval s = v) (hown : w.ownsRow base e size v n xs)
    (ao : Option Addr) (m c : Nat) (news : List Value) (hx : a.eval x = .slice ao m c) (hl : news.length = m * size) (hnone : ao = none → m = 0 ∧ c = 0)
    (hnews : ∀ ad, ao = some ad → ∀ j u, news[j]? = some u → w.cell? (ad.add j) = some u) (h1 : ∀ u ∈ news, u.oneCell' = true)
    (h63 : n + m ≤ maxLen) (hbytes : (n + m) * bytes ≤ 140737488355328) (hbase : base ≤ w.heap.size)
    (h : ∀ v' w', w'.ownsRow base e size v' (n + m) (xs ++ news) → w.grownBy w' v.ownBlock → (v'.ownBlock = v.ownBlock ∨ v'.ownBlock = some w.heap.size) → wpList P ops Q rest (a.put o.dst v') w') : wpList P ops Q (o :: rest) a w := by
  cases ao with
  | some ad => exact wpList_append_own_at w hgd s x t ho base e i z size bytes ht hi hz hsize hby hzs hsz v n xs hs hown ad m c news hx hl (hnews ad rfl) h1 h63 hbytes hbase (fun v' w' h2 h3 _ h5 => h v' w' h2 h3 h5)
  | none =>
    obtain ⟨rfl, rfl⟩ := hnone rfl
    have hn : news = [] := List.eq_nil_of_length_eq_zero (by simpa using hl)
    subst hn
    refine wpList_plain hgd fun K hK' => ?_
    have hrun := run_append_owned_none (P := P) w base t o.type e i size ht hi v n xs hown
    unfold Oper.wp
    simp [execOp, ho, resolve, invoke, builtin, hs, hx, hrun, Result.andThen]
    exact hK' _ _ (h v w (by simpa using hown) (World.grownBy.refl _ _) (.inl rfl))
end Go.Proofs.YtgijcbipnjmhgabGreat

namespace Go.Proofs.YtgijcbipnjmhgabGreat
open Go.ChangeShapes Go.WideShapes Go.ChangeAt Go.RowKit
set_option linter.unusedVariables false
set_option linter.unusedSimpArgs false

/-- a number of four bytes -/
structure Hn where
  v : Int
instance : Rw Hn := ⟨1, fun e => [.int .i32 e.v], fun _ => rfl, fun e u h => by simp at h; subst h; rfl, by decide⟩
/-- one block alone may have changed -/
structure One (g : Nat) (w w' : World) : Prop where
  keep : ∀ k, k < w.heap.size → k ≠ g → w'.heap[k]? = w.heap[k]?
  bel : Below g w w'
theorem One.refl (g : Nat) (w : World) : One g w w := ⟨fun _ _ _ => rfl, Below.refl _ _⟩
theorem One.trans {g : Nat} {w v u : World} (h : One g w v) (k : One g v u) : One g w u := ⟨fun i hi hg => (k.keep i (Nat.lt_of_lt_of_le hi h.bel.size) hg).trans (h.keep i hi hg), h.bel.trans k.bel⟩
theorem One.set (g i : Nat) (w : World) (x : Value) : One g w (w.setCell ⟨g, i, none⟩ x) := ⟨fun k _ hk => heap_setCell_other _ _ _ _ hk, (Below.refl _ _).setCell (p := ⟨g, i, none⟩) (Nat.le_refl _) _⟩
theorem One.of {g : Nat} {w w' : World} (h : Below w.heap.size w w') (hg : g ≤ w.heap.size) : One g w w' := ⟨fun k hk _ => h.block k hk, h.mono hg⟩
/-- a row of the call's own, in the block g -/
def Row (B e g n c : Nat) (w : World) (xs : List Hn) : Prop := w.ownsRow B e 1 (.slice (some ⟨g, 0, none⟩) n c) n (flat xs)
theorem Row.len {B e g n c : Nat} {w : World} {xs : List Hn} (h : Row B e g n c w xs) : xs.length = n := by
  have := h.1
  rw [flat_length] at this
  exact Nat.eq_of_mul_eq_mul_right (by decide) this
theorem flat_hn (xs : List Hn) (i : Nat) : (flat xs)[i]? = (xs[i]?).map fun e => Value.int .i32 e.v := by
  have := flat_get xs i 0 (by decide)
  rw [show i * Rw.k Hn + 0 = i by show i * 1 + 0 = i; omega] at this
  rw [this]
  cases xs[i]? <;> rfl
theorem flat_hn_set (xs : List Hn) (i : Nat) (y : Hn) : (flat xs).set i (.int .i32 y.v) = flat (xs.set i y) := by
  apply List.ext_getElem?
  intro j
  rw [flat_hn, List.getElem?_set, List.getElem?_set, flat_hn, flat_length, show xs.length * Rw.k Hn = xs.length from Nat.mul_one _]
  by_cases h : i = j
  · subst h
    by_cases h2 : i < xs.length
    · rw [if_pos rfl, if_pos rfl, if_pos h2, if_pos h2]; rfl
    · rw [if_pos rfl, if_pos rfl, if_neg h2, if_neg h2]; rfl
  · rw [if_neg h, if_neg h]
theorem Row.get {B e g n c : Nat} {w : World} {xs : List Hn} (h : Row B e g n c w xs) {i : Nat} {x : Hn} (hx : xs[i]? = some x) : w.cell? ⟨g, i, none⟩ = some (.int .i32 x.v) := by
  have := h.cells rfl i (.int .i32 x.v) (by rw [flat_hn, hx]; rfl)
  rwa [addr_add, Nat.zero_add] at this
theorem Row.set {B e g n c : Nat} {w : World} {xs : List Hn} (h : Row B e g n c w xs) (i : Nat) (y : Hn) : Row B e g n c (w.setCell ⟨g, i, none⟩ (.int .i32 y.v)) (xs.set i y) := by
  have := (World.ownsRow.stored h i (.int .i32 y.v)).1
  unfold Row
  rw [← flat_hn_set]
  exact this
theorem Row.free {B e g n c : Nat} {w : World} {xs : List Hn} (h : Row B e g n c w xs) (i : Nat) : w.frozen? ⟨g, i, none⟩ = false := World.ownsRow.frozenAt h i
theorem Row.below {B e g n c : Nat} {w w' : World} {xs : List Hn} (h : Row B e g n c w xs) (hb : Below w.heap.size w w') : Row B e g n c w' xs := ownsRow_below h hb (Nat.le_refl _)
theorem Row.lt {B e g n c : Nat} {w : World} {xs : List Hn} (h : Row B e g n c w xs) : g < w.heap.size := (World.ownsRow.lt h g rfl).2
/-- two things change their places -/
def swp (xs : List Hn) (i j : Nat) (x y : Hn) : List Hn := (xs.set i y).set j x
theorem swp_perm {xs : List Hn} {i j : Nat} {x y : Hn} (hi : xs[i]? = some x) (hj : xs[j]? = some y) : (swp xs i j x y).Perm xs := by
  obtain ⟨hil, hix⟩ := List.getElem?_eq_some_iff.1 hi
  obtain ⟨hjl, hjy⟩ := List.getElem?_eq_some_iff.1 hj
  subst hix
  subst hjy
  exact List.set_set_perm hil hjl
end Go.Proofs.YtgijcbipnjmhgabGreat

namespace Go.Proofs.YtgijcbipnjmhgabGreat
open Go.ChangeShapes Go.WideShapes Go.ChangeAt Go.RowKit
set_option linter.unusedVariables false

/-- A region that draws its order, over a class of worlds: every operation yields the same in each of them and stays among them (a callee may make memory of its own). -/
theorem region_class {P : Program} {X : Type} (F : X → World) {id : Nat} {Q : Exit → Act → World → Prop} {a : Act} {w : World} {l : List Oper} (hm : P.follows .mixedOrders = true) (hB : Region.lexB .any l.toArray = true)
    (hx : ∃ x, F x = w.drew) (h : wpQuiet P l.toArray (fun w' => ∃ n, w' = F n) (fun a' => ∀ w', (∃ n, w' = F n) → Q .normal a' w') l a) : (Code.region id l.toArray true).wp P Q a w :=
  wp_region_quiet (C := fun w' => ∃ n, w' = F n) hm hB (by obtain ⟨x, hx⟩ := hx; exact ⟨x, hx.symm⟩) (by simpa using h)

/-- the worlds of which D holds, as a row of worlds -/
theorem class_of (D : World → Prop) {w : World} (hw : D w) : ∃ (X : Type) (F : X → World), Nonempty X ∧ (∀ x, D (F x)) ∧ ∀ v, D v → ∃ x, F x = v :=
  ⟨{v : World // D v}, Subtype.val, ⟨⟨w, hw⟩⟩, fun x => x.2, fun v h => ⟨⟨v, h⟩, rfl⟩⟩
end Go.Proofs.YtgijcbipnjmhgabGreat

namespace Go.Proofs.YtgijcbipnjmhgabGreat
open Go.ChangeShapes Go.WideShapes Go.ChangeAt Go.RowKit
set_option linter.unusedVariables false

theorem infoInt : (Tryz.prog.info? 3).map (fun i => (i.zero, i.size, i.bytes)) = some (some (.int .i64 0), 1, 8) := by kernel_rfl
end Go.Proofs.YtgijcbipnjmhgabGreat

namespace Go.Proofs.YtgijcbipnjmhgabGreat
open Go.ChangeShapes Go.WideShapes Go.ChangeAt Go.RowKit
set_option linter.unusedVariables false

set_option maxHeartbeats 400000 in
theorem same_ints (a1 a2 : Option Addr) (c1 c2 : Nat) (xs : List Int) (w : World) (h1 : LiesA w a1 xs) (h2 : LiesA w a2 xs) (hl : xs.length ≤ maxLen) :
    Calls Tryz.prog 13 #[.slice a1 xs.length c1, .slice a2 xs.length c2] w fun e w' => e = .returned (.bool true) ∧ Below w.heap.size w w' := by
  unfold maxLen at hl
  rcases h1 with rfl | ⟨b1, o1, rfl, h1⟩
  · rw [List.length_nil]
    go_enter Tryz.func13, Tryz.ntmps13
    go_wp2
    refine wp_loop_rounds 1 ?_
    rw [rounds_succ]
    go_wp2
    go_ret
    exact ⟨rfl, Below.refl _ _⟩
  rcases h2 with rfl | ⟨b2, o2, rfl, h2⟩
  · rw [List.length_nil]
    go_enter Tryz.func13, Tryz.ntmps13
    go_wp2
    refine wp_loop_rounds 1 ?_
    rw [rounds_succ]
    go_wp2
    go_ret
    exact ⟨rfl, Below.refl _ _⟩
  have H1 : Hid (Lies w b1 o1 xs) := h1
  have H2 : Hid (Lies w b2 o2 xs) := h2
  have hb1 : b1 < w.heap.size := h1.1
  have hb2 : b2 < w.heap.size := h2.1
  clear h1 h2
  have hne : ((xs.length : Int) != (xs.length : Int)) = false := by simp
  go_enter Tryz.func13, Tryz.ntmps13
  go_wp2
  go_loopw [13] (fun i wr => ∃ k : Nat, k ≤ xs.length ∧ i = .int .i64 k ∧ Below w.heap.size w wr) (fun i _ => xs.length - (intOf i).toNat)
  case atStart => exact ⟨0, Nat.zero_le _, rfl, Below.refl _ _⟩
  case round =>
    obtain ⟨k, hk, rfl, hbel⟩ := hrel
    have hsz := hbel.size
    by_cases hlt : k < xs.length
    · obtain ⟨e, he⟩ : ∃ e, xs[k]? = some e := ⟨_, List.getElem?_eq_getElem hlt⟩
      have c0 := H1.out.int hbel he
      have d0 := H2.out.int hbel he
      clear he
      have hlt' : (k : Int) < (xs.length : Int) := by omega
      go_wp2
      go_quiet (fail)
      go_wp2
      go_roundw
      case rel => exact ⟨k + 1, by omega, by go_num, by (repeat (with_reducible refine below_drewN ?_ _)); go_grown⟩
      case measure => simp [intOf]; omega
    · go_wp2
      go_ret
      exact ⟨rfl, by go_grown⟩
end Go.Proofs.YtgijcbipnjmhgabGreat

namespace Go.Proofs.YtgijcbipnjmhgabGreat
open Go.ChangeShapes Go.WideShapes Go.ChangeAt Go.RowKit
set_option linter.unusedVariables false

theorem infoNd : (Tryz.prog.info? 116).map (fun i => (i.zero, i.size, i.bytes)) = some (some (.agg #[.int .u8 0, .int .i64 0, .int .i64 0, .int .i64 0]), 4, 32) := by kernel_rfl
end Go.Proofs.YtgijcbipnjmhgabGreat
