import Derived.Test.YtaploloedocgbaaDoorTsl
import Derived.Test.YtaploloedocgbaaDoorDw
import Derived.Test.YtaploloedocgbaaDoorOrd
import Derived.Deep.AppendLies
import Derived.Deep.RegionHeld3
import Derived.Deep.DeepCutAuto
import Derived.Deep.RegionWith
namespace Go.Proofs.YtaploloedocgbaaDoor
open Go.ChangeShapes Go.WideShapes Go.ChangeAt Go.RowKit
set_option linter.unusedVariables false
set_option linter.unusedSimpArgs false

theorem infoRowI : (Tryd.prog.info? 39).map (fun i => (i.zero, i.size, i.bytes)) = some (some (.slice none 0 0), 1, 24) := by kernel_rfl
theorem infoRowN : (Tryd.prog.info? 23).map (fun i => (i.zero, i.size, i.bytes)) = some (some (.slice none 0 0), 1, 24) := by kernel_rfl
theorem own_news {w : World} {B e k n c : Nat} {a : Option Addr} {xs : List Value} (h : w.ownsRow B e k (.slice a n c) n xs) : ∀ ad, a = some ad → ∀ j u, xs[j]? = some u → w.cell? (ad.add j) = some u := by
  intro ad had j u hj
  rcases h.2 with ⟨hv, h0⟩ | ⟨g, cap, cur, hv, _⟩
  · simp only [Value.slice.injEq] at hv
    rw [hv.1] at had; cases had
  · simp only [Value.slice.injEq] at hv
    obtain ⟨ha, -, hc⟩ := hv
    subst hc
    rw [ha] at had h
    cases had
    exact h.cells rfl j u hj
/-- a row stands while its block stands -/
theorem own_far {w w' : World} {B s n : Nat} {e : TypeId} {v : Value} {xs : List Value} (h : w.ownsRow B e s v n xs) (hk : ∀ g, v.ownBlock = some g → w'.heap[g]? = w.heap[g]?) : w'.ownsRow B e s v n xs := by
  refine ⟨h.1, ?_⟩
  rcases h.2 with k | ⟨g, cap, cur, hv, hgb, hh, r⟩
  · exact .inl k
  · exact .inr ⟨g, cap, cur, hv, hgb, (hk g (by rw [hv]; rfl)).trans hh, r⟩
/-- lists on a shelf stand while blocks of their types stand -/
theorem She.far {e te : TypeId} {k B : Nat} {w w' : World} {V U : Value} {rs us : List Rr} (h : She e te k B w V U rs us) (hk : ∀ (g : Nat) (c : Array Value) (t : TypeId) (fz : Nat × Nat), w.heap[g]? = some (.cells c t fz) → t = e ∨ t = te → w'.heap[g]? = w.heap[g]?) : She e te k B w' V U rs us :=
  ⟨own_far h.outV (fun g hg => by obtain ⟨c, fz, hh⟩ := row_kindR h.outV g hg; exact hk g c _ fz hh (.inr rfl)),
   own_far h.outU (fun g hg => by obtain ⟨c, fz, hh⟩ := row_kindR h.outU g hg; exact hk g c _ fz hh (.inr rfl)),
   fun r hr => own_far (h.each r hr) (fun g hg => by obtain ⟨c, fz, hh⟩ := row_kindR (h.each r hr) g hg; exact hk g c _ fz hh (.inl rfl)), h.apart, h.outs⟩
theorem She.setFar {e te t : TypeId} {k B g : Nat} {w : World} {V U : Value} {rs us : List Rr} {c : Array Value} {fz : Nat × Nat} (h : She e te k B w V U rs us) (hg : w.heap[g]? = some (.cells c t fz)) (h1 : t ≠ e) (h2 : t ≠ te) (m : Nat) (u : Value) : She e te k B (w.setCell ⟨g, m, none⟩ u) V U rs us :=
  h.far (fun g' c' t' fz' hh ht => by
    by_cases hgg : g' = g
    · subst hgg
      rw [hg] at hh
      cases hh
      rcases ht with rfl | rfl
      · exact (h1 rfl).elim
      · exact (h2 rfl).elim
    · exact heap_setCell_other _ _ _ _ hgg)
theorem She.grwFar {e te t : TypeId} {k B B' s n : Nat} {w w' : World} {V U v : Value} {rs us : List Rr} {xs : List Value} (h : She e te k B w V U rs us) (hr : w.ownsRow B' t s v n xs) (hg : w.grownBy w' v.ownBlock) (h1 : t ≠ e) (h2 : t ≠ te) : She e te k B w' V U rs us :=
  h.far (fun g c t' fz hh ht => hg.block g (lt_of_block hh) (fun hrow => by
    obtain ⟨c', fz', hh'⟩ := row_kindR hr g hrow.symm
    rw [hh] at hh'
    cases hh'
    rcases ht with rfl | rfl
    · exact h1 rfl
    · exact h2 rfl))
theorem She.rowFar {e te t : TypeId} {k B B' s n g : Nat} {w : World} {V U v : Value} {rs us : List Rr} {xs : List Value} (h : She e te k B w V U rs us) (hr : w.ownsRow B' t s v n xs) (hv : v.ownBlock = some g) (h1 : t ≠ e) (h2 : t ≠ te) (m : Nat) (u : Value) : She e te k B (w.setCell ⟨g, m, none⟩ u) V U rs us := by
  obtain ⟨c, fz, hh⟩ := row_kindR hr g hv
  exact h.setFar hh h1 h2 m u
theorem She.box {e te : TypeId} {k B : Nat} {w : World} {V U : Value} {rs us : List Rr} (h : She e te k B w V U rs us) {b : Nat} (hb : b < B) (i : Nat) (x : Value) : She e te k B (w.setCell ⟨b, i, none⟩ x) V U rs us := by
  have key : ∀ {E s n : Nat} {v : Value} {xs : List Value}, w.ownsRow B E s v n xs → (w.setCell ⟨b, i, none⟩ x).ownsRow B E s v n xs := fun ho => ownsRow_setCell_other ho (a := ⟨b, i, none⟩) (fun h1 => by have := (ho.lt b h1).1; omega) x
  exact ⟨key h.outV, key h.outU, fun r hr => key (h.each r hr), h.apart, h.outs⟩
theorem Bx.grw {w w' : World} {g : Nat} {vs : Array Value} {t : TypeId} {row : Option Nat} (h : Bx w g vs t) (hg : w.grownBy w' row) (hne : row ≠ some g) : Bx w' g vs t :=
  (hg.block g h.lt (fun e => hne e.symm)).trans h
theorem one_cell {v : Value} (h : v.oneCell' = true) : ∀ u ∈ [v], u.oneCell' = true := fun u hu => by rw [List.mem_singleton] at hu; subst hu; exact h
theorem own_one {w : World} {B s n : Nat} {e : TypeId} {v : Value} {xs : List Value} (h : w.ownsRow B e s v n xs) : v.oneCell' = true := by
  obtain ⟨a, c, rfl, -⟩ := own_slice h
  rfl
theorem cells_newR (w : World) (l : List Value) (t : TypeId) : ∀ j u, l[j]? = some u → (w.alloc (.cells l.toArray t)).cell? ((⟨w.heap.size, 0, none⟩ : Addr).add j) = some u := by
  intro j u hj
  rw [show (⟨w.heap.size, 0, none⟩ : Addr).add j = ⟨w.heap.size, 0 + j, none⟩ by unfold Addr.add; by_cases hz : j = 0 <;> simp [hz], World.cell?_alloc_at _ _ _ _ rfl]
  simpa using hj
/-- the shelf's box: all is empty but the lists of nodes and of ints -/
def bxT (V U I J : Value) : Array Value := #[.slice none 0 0, .slice none 0 0, V, U, .slice none 0 0, .slice none 0 0, I, J, .slice none 0 0, .slice none 0 0, .slice none 0 0, .slice none 0 0]
/-- the shelf's own alone are written -/
structure Frm (b : Nat) (V U : Value) (w w' : World) : Prop where
  keep : ∀ g, g < w.heap.size → g ≠ b → V.ownBlock ≠ some g → U.ownBlock ≠ some g → w'.heap[g]? = w.heap[g]?
  bel : Below b w w'
/-- a shelf with lists of nodes and lists of ints -/
structure ShT (b B : Nat) (w : World) (V U I J : Value) (rn un ri ui : List Rr) : Prop where
  box : Bx w b (bxT V U I J) 35
  n : She 57 23 4 B w V U rn un
  i : She 3 39 1 B w I J ri ui
  lt : b < B
  le : B ≤ w.heap.size
theorem ShT.below {b B : Nat} {w w' : World} {V U I J : Value} {rn un ri ui : List Rr} (h : ShT b B w V U I J rn un ri ui) (hb : Below w.heap.size w w') : ShT b B w' V U I J rn un ri ui :=
  ⟨h.box.below hb h.box.lt, h.n.below hb, h.i.below hb, h.lt, Nat.le_trans h.le hb.size⟩
set_option maxRecDepth 1000000 in
set_option maxHeartbeats 1000000 in
theorem copyInts_own (B : Nat) (v : Value) (n : Nat) (xs : List Value) (w : World) (h : w.ownsRow B 3 1 v n xs) (h1 : ∀ u ∈ xs, u.oneCell' = true) (hn : n ≤ 4194304) :
    Calls Tryd.prog 49 #[v] w fun e w' => ∃ u, e = .returned u ∧ w'.ownsRow w.heap.size 3 1 u n xs ∧ Below w.heap.size w w' := by
  obtain ⟨i0, hi0, hz0, hz1, hz2⟩ := info_parts infoInt
  obtain ⟨a, c, rfl, -, hn2⟩ := own_slice h
  have HO : Hid (w.ownsRow B 3 1 (.slice a n c) n xs) := h
  have H1 : Hid (∀ u ∈ xs, u.oneCell' = true) := h1
  have HN2 : Hid (a = none → n = 0 ∧ c = 0) := hn2
  have HL : Hid (xs.length = n * 1) := h.1
  clear h h1 hn2
  have HL0 : Hid ((w.alloc (.cells #[] 3)).ownsRow w.heap.size 3 1 (.slice (some ⟨w.heap.size, 0, none⟩) 0 0) 0 []) := World.ownsRow_lit w #[] 0 (Nat.le_refl _) (by unfold maxLen; omega) rfl
  go_enter Tryd.func49, Tryd.ntmps49
  go_wp2_with (at_builtin; ((refine wpList_append_at _ rfl _ _ 39 rfl w.heap.size 3 i0 (.int .i64 0) 1 8 Tryd.underlying39 hi0 hz0 hz1 hz2 rfl (by decide) _ 0 [] rfl HL0.out a n c xs rfl HL.out HN2.out (own_news (own_belowR HO.out ((Below.refl _ w).alloc (Nat.le_refl _) _) (Nat.le_refl _))) H1.out (by unfold maxLen; omega) (by omega) (by simp) ?_); intro v1 w1 hown1 hgrow1 _; have HB1 : Hid (Below w.heap.size w w1) := ((Below.refl _ w).alloc (Nat.le_refl _) _).grown hgrow1 (by simp) (fun g h => (HL0.out.lt g h).1); have HO1 : Hid (w1.ownsRow w.heap.size 3 1 v1 n xs) := (by unfold Hid; rw [Nat.zero_add, List.nil_append] at hown1; exact hown1); clear hown1 hgrow1))
  go_ret
  exact ⟨_, rfl, HO1.out, HB1.out⟩
theorem mark_any (n : Nat) (w : World) (hn : n ≤ 1000000) : Calls Tryd.prog 66 #[.int .i64 (n : Int)] w fun e w' => e = .returned (.int .i64 (-7777 - (n : Int))) ∧ w' = w := by
  have mk : IntKind.i64.wrap (-7777 - (n : Int)) = -7777 - (n : Int) := IntWalk.i64_in _ ⟨by omega, by omega⟩
  go_enter Tryd.func66, Tryd.ntmps66
  go_wp2
  go_ret
  exact ⟨rfl, rfl⟩
end Go.Proofs.YtaploloedocgbaaDoor
