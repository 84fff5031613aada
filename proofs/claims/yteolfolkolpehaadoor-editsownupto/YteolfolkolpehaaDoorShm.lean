import Derived.Test.YteolfolkolpehaaDoorBs
import Derived.Deep.DeepCutAuto
import Derived.Test.YteolfolkolpehaaDoorShl
import Derived.Test.YteolfolkolpehaaDoorSh
namespace Go.Proofs.YteolfolkolpehaaDoor
open Go.ChangeShapes Go.WideShapes Go.ChangeAt Go.RowKit
set_option linter.unusedVariables false

def Bx (w : World) (g : Nat) (vs : Array Value) (t : TypeId) : Prop := w.heap[g]? = some (.cells vs t (0, 0))
theorem Bx.lt {w : World} {g : Nat} {vs : Array Value} {t : TypeId} (h : Bx w g vs t) : g < w.heap.size := lt_of_block h
theorem Bx.cell {w : World} {g : Nat} {vs : Array Value} {t : TypeId} (h : Bx w g vs t) (i : Nat) : w.cell? ⟨g, i, none⟩ = vs[i]? := by simp [World.cell?, show w.heap[g]? = _ from h]
theorem Bx.one {w : World} {g : Nat} {x : Value} {t : TypeId} (h : Bx w g #[x] t) : w.cell? ⟨g, 0, none⟩ = some x := h.cell 0
theorem Bx.t0 {w : World} {g : Nat} {x y z : Value} {t : TypeId} (h : Bx w g #[x, y, z] t) : w.cell? ⟨g, 0, none⟩ = some x := h.cell 0
theorem Bx.t1 {w : World} {g : Nat} {x y z : Value} {t : TypeId} (h : Bx w g #[x, y, z] t) : w.cell? ⟨g, 1, none⟩ = some y := h.cell 1
theorem Bx.t2 {w : World} {g : Nat} {x y z : Value} {t : TypeId} (h : Bx w g #[x, y, z] t) : w.cell? ⟨g, 2, none⟩ = some z := h.cell 2
theorem Bx.free {w : World} {g : Nat} {vs : Array Value} {t : TypeId} (h : Bx w g vs t) (i : Nat) : w.frozen? ⟨g, i, none⟩ = false := by simp [World.frozen?, show w.heap[g]? = _ from h]
theorem Bx.drewN {w : World} {g : Nat} {vs : Array Value} {t : TypeId} (h : Bx w g vs t) (n : Nat) : Bx (w.drewN n) g vs t := h
theorem Bx.drew {w : World} {g : Nat} {vs : Array Value} {t : TypeId} (h : Bx w g vs t) : Bx w.drew g vs t := h
theorem Bx.below {B : Nat} {w w' : World} {g : Nat} {vs : Array Value} {t : TypeId} (h : Bx w g vs t) (hb : Below B w w') (hg : g < B) : Bx w' g vs t := (hb.block g hg).trans h
theorem Bx.alloc {w : World} {g : Nat} {vs : Array Value} {t : TypeId} (h : Bx w g vs t) (o : Obj) : Bx (w.alloc o) g vs t := (Below.heap_alloc w o g h.lt).trans h
theorem Bx.new (w : World) (vs : Array Value) (t : TypeId) : Bx (w.alloc (.cells vs t)) w.heap.size vs t := heap_alloc_new w _
theorem Bx.other {w : World} {g : Nat} {vs : Array Value} {t : TypeId} (h : Bx w g vs t) (a : Addr) (hne : g ≠ a.block) (v : Value) : Bx (w.setCell a v) g vs t := (heap_setCell_other w a g v hne).trans h
theorem Bx.set {w : World} {g : Nat} {vs : Array Value} {t : TypeId} (h : Bx w g vs t) (i : Nat) (v : Value) : Bx (w.setCell ⟨g, i, none⟩ v) g (vs.setIfInBounds i v) t := by
  have := heap_setCell_same w g i _ _ v h
  simpa [Bx] using this
theorem bx1 (w : World) (v1 : Array Value) (t1 : TypeId) : ∃ w2, w.alloc (.cells v1 t1) = w2 ∧ Below w.heap.size w w2 ∧ w2.heap.size = w.heap.size + 1 ∧ Bx w2 w.heap.size v1 t1 :=
  ⟨_, rfl, (Below.refl _ _).alloc (Nat.le_refl _) _, by simp, Bx.new _ _ _⟩

theorem bx2 (w : World) (v1 v2 : Array Value) (t1 t2 : TypeId) : ∃ w2, (w.alloc (.cells v1 t1)).alloc (.cells v2 t2) = w2 ∧ Below w.heap.size w w2 ∧ w2.heap.size = w.heap.size + 2 ∧ Bx w2 w.heap.size v1 t1 ∧ Bx w2 (w.heap.size + 1) v2 t2 := by
  refine ⟨_, rfl, ((Below.refl _ _).alloc (Nat.le_refl _) _).alloc (by simp) _, by simp, (Bx.new _ _ _).alloc _, ?_⟩
  have := Bx.new (w.alloc (.cells v1 t1)) v2 t2
  simpa using this

/-- A region that draws its order, over a class of worlds: every operation yields the same in each of them and stays among them (a callee may make memory of its own). -/
theorem region_class {P : Program} {X : Type} (F : X → World) {id : Nat} {Q : Exit → Act → World → Prop} {a : Act} {w : World} {l : List Oper} (hm : P.follows .mixedOrders = true) (hB : Region.lexB .any l.toArray = true)
    (hx : ∃ x, F x = w.drew) (h : wpQuiet P l.toArray (fun w' => ∃ n, w' = F n) (fun a' => ∀ w', (∃ n, w' = F n) → Q .normal a' w') l a) : (Code.region id l.toArray true).wp P Q a w :=
  wp_region_quiet (C := fun w' => ∃ n, w' = F n) hm hB (by obtain ⟨x, hx⟩ := hx; exact ⟨x, hx.symm⟩) (by simpa using h)

/-- the worlds of which D holds, as a row of worlds -/
theorem class_of (D : World → Prop) {w : World} (hw : D w) : ∃ (X : Type) (F : X → World), Nonempty X ∧ (∀ x, D (F x)) ∧ ∀ v, D v → ∃ x, F x = v :=
  ⟨{v : World // D v}, Subtype.val, ⟨⟨w, hw⟩⟩, fun x => x.2, fun v h => ⟨⟨v, h⟩, rfl⟩⟩
end Go.Proofs.YteolfolkolpehaaDoor

namespace Go.Proofs.YteolfolkolpehaaDoor
open Go.ChangeShapes Go.WideShapes Go.ChangeAt Go.RowKit
set_option linter.unusedVariables false

theorem infoEdR : (Tryd.prog.info? 45).map (fun i => (i.zero, i.size, i.bytes)) = some (some (.agg #[.int .i64 0, .int .i64 0, .string ⟨#[]⟩]), 3, 32) := by kernel_rfl
theorem infoRow : (Tryd.prog.info? 22).map (fun i => (i.zero, i.size, i.bytes)) = some (some (.slice none 0 0), 1, 24) := by kernel_rfl
theorem own_news {w : World} {B e k n c : Nat} {a : Option Addr} {xs : List Value} (h : w.ownsRow B e k (.slice a n c) n xs) : ∀ ad, a = some ad → ∀ j u, xs[j]? = some u → w.cell? (ad.add j) = some u := by
  intro ad had j u hj
  rcases h.2 with ⟨hv, h0⟩ | ⟨g, cap, cur, hv, _⟩
  · simp only [Value.slice.injEq] at hv
    rw [hv.1] at had; cases had
  · simp only [Value.slice.injEq] at hv
    obtain ⟨ha, -, hc⟩ := hv
    subst hc
    rw [ha] at had h
    cases had
    exact h.cells rfl j u hj
set_option maxRecDepth 1000000 in
set_option maxHeartbeats 1000000 in
theorem copyEdits_any (B : Nat) (v : Value) (n : Nat) (xs : List Value) (w : World) (h : w.ownsRow B 45 3 v n xs) (h1 : ∀ u ∈ xs, u.oneCell' = true) (hn : n ≤ 1000000) :
    Calls Tryd.prog 48 #[v] w fun e w' => ∃ u, e = .returned u ∧ w'.ownsRow w.heap.size 45 3 u n xs ∧ Below w.heap.size w w' := by
  obtain ⟨i0, hi0, hz0, hz1, hz2⟩ := info_parts infoEdR
  obtain ⟨a, c, rfl, -, hn2⟩ := own_slice h
  have HO : Hid (w.ownsRow B 45 3 (.slice a n c) n xs) := h
  have H1 : Hid (∀ u ∈ xs, u.oneCell' = true) := h1
  have HN2 : Hid (a = none → n = 0 ∧ c = 0) := hn2
  have HL : Hid (xs.length = n * 3) := h.1
  clear h h1 hn2
  have HL0 : Hid ((w.alloc (.cells #[] 45)).ownsRow w.heap.size 45 3 (.slice (some ⟨w.heap.size, 0, none⟩) 0 0) 0 []) := World.ownsRow_lit w #[] 0 (Nat.le_refl _) (by unfold maxLen; omega) rfl
  go_enter Tryd.func48, Tryd.ntmps48
  go_wp2_with (at_builtin; ((refine wpList_append_at _ rfl _ _ 22 rfl w.heap.size 45 i0 (.agg #[.int .i64 0, .int .i64 0, .string ⟨#[]⟩]) 3 32 Tryd.underlying22 hi0 hz0 hz1 hz2 rfl (by decide) _ 0 [] rfl HL0.out a n c xs rfl HL.out HN2.out (own_news (own_belowR HO.out ((Below.refl _ w).alloc (Nat.le_refl _) _) (Nat.le_refl _))) H1.out (by unfold maxLen; omega) (by omega) (by simp) ?_); intro v1 w1 hown1 hgrow1 _; have HB1 : Hid (Below w.heap.size w w1) := ((Below.refl _ w).alloc (Nat.le_refl _) _).grown hgrow1 (by simp) (fun g h => (HL0.out.lt g h).1); have HO1 : Hid (w1.ownsRow w.heap.size 45 3 v1 n xs) := (by unfold Hid; rw [Nat.zero_add, List.nil_append] at hown1; exact hown1); clear hown1 hgrow1))
  go_ret
  exact ⟨_, rfl, HO1.out, HB1.out⟩
theorem mark_any (n : Nat) (w : World) (hn : n ≤ 1000000) : Calls Tryd.prog 76 #[.int .i64 (n : Int)] w fun e w' => e = .returned (.int .i64 (-7777 - (n : Int))) ∧ w' = w := by
  have mk : IntKind.i64.wrap (-7777 - (n : Int)) = -7777 - (n : Int) := IntWalk.i64_in _ ⟨by omega, by omega⟩
  go_enter Tryd.func76, Tryd.ntmps76
  go_wp2
  go_ret
  exact ⟨rfl, rfl⟩
end Go.Proofs.YteolfolkolpehaaDoor
