import Derived.Test.YtgijcbipnjmhgabGreatWd1
import Derived.Test.YtgijcbipnjmhgabGreatReachesW
import Derived.RangeFuncFrom
namespace Go.Proofs.YtgijcbipnjmhgabGreat
open Go.ChangeShapes Go.WideShapes Go.ChangeAt Go.RowKit
set_option linter.unusedVariables false
set_option linter.unusedSimpArgs false

/-- what is turned is no cells -/
def Ncs (B : Nat) (row : Option Nat) (W : World) : Prop := ∀ r, row = some r → B ≤ r ∧ ∃ o : Obj, W.heap[r]? = some o ∧ o.isCells = false
theorem Bx.nc {B b : Nat} {W : World} {vs : Array Value} {t : TypeId} {row : Option Nat} (h : Bx W b vs t) (hr : Ncs B row W) : row ≠ some b := fun e => by
  obtain ⟨-, o, h1, h2⟩ := hr b e
  rw [show W.heap[b]? = _ from h] at h1
  cases h1
  cases h2
theorem own_nc {B B' e s n g : Nat} {W : World} {v : Value} {xs : List Value} {row : Option Nat} (h : W.ownsRow B e s v n xs) (hr : Ncs B' row W) (hg : v.ownBlock = some g) : row ≠ some g := fun e => by
  obtain ⟨-, o, h1, h2⟩ := hr g e
  rcases h.2 with ⟨hv, -⟩ | ⟨g', cap, cur, hv, -, hh, -⟩
  · rw [hv] at hg; cases hg
  · rw [hv] at hg
    obtain rfl : g' = g := by injection hg
    rw [hh] at h1
    cases h1
    cases h2
theorem own_turn {B B' e s n : Nat} {W W' : World} {v : Value} {xs : List Value} {row : Option Nat} (h : W.ownsRow B e s v n xs) (hg : W.grownBy W' row) (hr : Ncs B' row W) : W'.ownsRow B e s v n xs :=
  own_same h (fun g e => hg.block g (h.lt g e).2 (fun e2 => own_nc h hr e e2.symm))
theorem Wd.own {B bm bn bk bt gm gV n : Nat} {tv : Value} {w0 z z' : World} {N : Nat → List Int} {m : List Bool} {row : Option Nat} (h : Wd B bm bn bk bt gm gV n tv w0 N m z) (hg : z.grownBy z' row) (hr : Ncs B row z) : Wd B bm bn bk bt gm gV n tv w0 N m z' :=
  ⟨h.rl.below ((Below.refl B z).grown hg h.base (fun k e => (hr k e).1)), own_turn h.met hg hr, h.xm.grw hg (h.xm.nc hr), h.xn.grw hg (h.xn.nc hr), h.xk.grw hg (h.xk.nc hr), h.xt.grw hg (h.xt.nc hr), h.bel.grown hg h.base (fun k e => (hr k e).1), Nat.le_trans h.base hg.size⟩
theorem TL.now {B bo : Nat} {vs : List (Value × List Int)} {qs : List (Nat × Value × TypeId)} {w9 z : World} {t : List Nat} (h : TL B bo vs qs w9 t z) : TL B bo vs qs z t z := ⟨h.ex, h.ks, h.bs, KeepsOthers.refl _, h.base, h.most⟩
theorem TL.own {B bo : Nat} {vs : List (Value × List Int)} {qs : List (Nat × Value × TypeId)} {w9 z z' : World} {t : List Nat} {row : Option Nat} (h : TL B bo vs qs w9 t z) (hg : z.grownBy z' row) (hr : Ncs B row z) : TL B bo vs qs z' t z' := by
  obtain ⟨v, h1, h2, h3⟩ := h.ex
  exact ⟨⟨v, h1.grw hg (h1.nc hr), own_turn h2 hg hr, h3⟩, fun p hp => own_turn (h.ks p hp) hg hr, fun q hq => by
    obtain ⟨b1, b2, b3, b4⟩ := h.bs q hq
    exact ⟨b1.grw hg (b1.nc hr), b2, b3, b4⟩, KeepsOthers.refl _, h.base, h.most⟩
theorem nvs_flat (t : List Nat) : nvs t = flat (t.map fun (x : Nat) => (x : Int)) := by
  rw [flat_ints, List.map_map]
  rfl
/-- the list is emptied: its place stays -/
theorem TL.cut {B bo : Nat} {vs : List (Value × List Int)} {qs : List (Nat × Value × TypeId)} {w9 z : World} {t : List Nat} (h : TL B bo vs qs w9 t z) : ∃ a c, Bx z bo #[.slice a t.length c] 32 ∧ t.length ≤ c ∧ ((a = none ∧ t.length = 0 ∧ c = 0) ∨ ∃ g, a = some ⟨g, 0, none⟩) ∧ TL B bo vs qs w9 [] (z.setCell ⟨bo, 0, none⟩ (.slice a 0 c)) := by
  obtain ⟨v, h1, h2, h3⟩ := h.ex
  obtain ⟨a, c, hv, ha, hn⟩ := own_slice h2
  subst hv
  have hnew : z.ownsRow B 3 1 (.slice a 0 c) 0 (nvs []) ∧ t.length ≤ c ∧ (Value.slice a 0 c).ownBlock = (Value.slice a t.length c).ownBlock := by
    rcases h2.2 with ⟨hv, h0⟩ | ⟨g, cap, cur, hv, hrest⟩
    · injection hv with e1 e2 e3
      subst e1 e3
      exact ⟨World.ownsRow_nil _ _ _ _, by omega, rfl⟩
    · injection hv with e1 e2 e3
      subst e1 e3
      have h9 : z.ownsRow B 3 1 (.slice (some ⟨g, 0, none⟩) t.length c) t.length (flat (t.map fun (x : Nat) => (x : Int))) := by rw [← nvs_flat]; exact h2
      exact ⟨own_front h9 (Nat.zero_le _), own_caps h9, rfl⟩
  have hform : (a = none ∧ t.length = 0 ∧ c = 0) ∨ ∃ g, a = some ⟨g, 0, none⟩ := by
    rcases h2.2 with ⟨hv, h0⟩ | ⟨g, cap, cur, hv, hrest⟩
    · injection hv with e1 e2 e3
      exact .inl ⟨e1, h0, e3⟩
    · injection hv with e1 e2 e3
      exact .inr ⟨g, e1⟩
  refine ⟨a, c, h1, hnew.2.1, hform, ⟨_, h1.set 0 _, ownsRow_setCell_other hnew.1 (a := ⟨bo, 0, none⟩) (fun e => h1.neR hnew.1 (by decide) e rfl) _, fun p hp g e => h3 p hp g (hnew.2.2 ▸ e)⟩, fun p hp => ownsRow_setCell_other (h.ks p hp) (a := ⟨bo, 0, none⟩) (fun e => h1.neR (h.ks p hp) (by decide) e rfl) _, fun q hq => ?_, h.ko.trans (KeepsOthers.setCell _ _ _), h.base, Nat.zero_le _⟩
  obtain ⟨b1, b2, b3, b4⟩ := h.bs q hq
  exact ⟨b1.other ⟨bo, 0, none⟩ b2 _, b2, b3, b4⟩
/-- the list is put in order -/
theorem TL.sorted {B bo : Nat} {vs : List (Value × List Int)} {qs : List (Nat × Value × TypeId)} {w9 z z' : World} {t : List Nat} {v : Value} (h : TL B bo vs qs w9 t z) (h1 : Bx z bo #[v] 32) (h2 : z.ownsRow B 3 1 v t.length (nvs t)) (h3 : ∀ p ∈ vs, ∀ g, v.ownBlock = some g → p.1.ownBlock ≠ some g) (ho : z'.ownsRow B 3 1 v t.length (ivs (sortI (t.map fun (x : Nat) => (x : Int))))) (hg : z.grownBy z' v.ownBlock) : ∃ t' : List Nat, t'.length = t.length ∧ (∀ y, y ∈ t' ↔ y ∈ t) ∧ t'.Pairwise (· ≤ ·) ∧ TL B bo vs qs w9 t' z' ∧ Bx z' bo #[v] 32 ∧ z'.ownsRow B 3 1 v t.length (nvs t') := by
  have hmem : ∀ y : Int, y ∈ sortI (t.map fun (x : Nat) => (x : Int)) ↔ y ∈ t.map fun (x : Nat) => (x : Int) := fun y => by simp [sortI]
  have hp : (sortI (t.map fun (x : Nat) => (x : Int))).Pairwise (· ≤ ·) := by
    have := List.pairwise_mergeSort (le := fun (x y : Int) => decide (x ≤ y)) (by intro a b c h1 h2; simp at *; omega) (by intro a b; simp; omega) (t.map fun (x : Nat) => (x : Int))
    exact this.imp (by intro a b h; simpa using h)
  have hl : (sortI (t.map fun (x : Nat) => (x : Int))).length = t.length := by simp [sortI]
  obtain ⟨S, hS⟩ : ∃ S, sortI (t.map fun (x : Nat) => (x : Int)) = S := ⟨_, rfl⟩
  rw [hS] at hmem hp hl ho
  have hcast : (S.map Int.toNat).map (fun (x : Nat) => (x : Int)) = S := by
    rw [List.map_map]
    conv => rhs; rw [← List.map_id S]
    refine List.map_congr_left fun y hy => ?_
    obtain ⟨x, -, e⟩ := List.mem_map.1 ((hmem y).1 hy)
    simp only [Function.comp, id]
    omega
  have ho' : z'.ownsRow B 3 1 v t.length (nvs (S.map Int.toNat)) := by
    rw [nvs_flat, hcast, flat_ints]
    exact ho
  have hbo : v.ownBlock ≠ some bo := fun e => h1.neR h2 (by decide) e rfl
  have X' := h1.grw hg hbo
  have hks : ∀ p ∈ vs, z'.ownsRow B 3 1 p.1 p.2.length (flat p.2) := fun p hp => own_same (h.ks p hp) (fun g e => hg.block g ((h.ks p hp).lt g e).2 (fun e2 => h3 p hp g e2.symm e))
  have hl2 : (S.map Int.toNat).length = t.length := by rw [List.length_map, hl]
  refine ⟨S.map Int.toNat, hl2, fun y => ?_, ?_, ⟨⟨v, X', by rw [hl2]; exact ho', h3⟩, hks, fun q hq => ?_, h.ko.trans (KeepsOthers.of_grownBy hg ?_), h.base, by rw [hl2]; exact h.most⟩, X', ho'⟩
  · rw [List.mem_map]
    constructor
    · rintro ⟨a, ha, rfl⟩
      obtain ⟨x, hx, e⟩ := List.mem_map.1 ((hmem a).1 ha)
      have : a.toNat = x := by omega
      rw [this]; exact hx
    · intro hy
      exact ⟨(y : Int), (hmem _).2 (List.mem_map.2 ⟨y, hy, rfl⟩), by omega⟩
  · rw [List.pairwise_map]
    exact hp.imp (by intro a b h; omega)
  · obtain ⟨b1, b2, b3, b4⟩ := h.bs q hq
    exact ⟨b1.grw hg (fun e => b1.neR h2 b4 e rfl), b2, b3, b4⟩
  · intro j o e hj
    rcases h2.2 with ⟨hv, -⟩ | ⟨g, cap, cur, hv, -, hh, -⟩
    · rw [hv] at e; cases e
    · rw [hv] at e
      obtain rfl : g = j := by injection e
      rw [hh] at hj
      cases hj
      rfl
/-- a cell of the first of the rows beside it is written -/
theorem TL.low {B bo gl n : Nat} {L : Value} {ls : List Int} {vs : List (Value × List Int)} {qs : List (Nat × Value × TypeId)} {w9 z : World} {t : List Nat} (h : TL B bo ((.slice (some ⟨gl, 0, none⟩) n n, ls) :: vs) qs w9 t z) (hn : ls.length = n) (ha : ∀ p ∈ vs, p.1.ownBlock ≠ some gl) (y : Nat) (x : Int) : TL B bo ((.slice (some ⟨gl, 0, none⟩) n n, ls.set y x) :: vs) qs w9 t (z.setCell ⟨gl, y, none⟩ (.int .i64 x)) := by
  obtain ⟨v, h1, h2, h3⟩ := h.ex
  have hL := h.ks _ List.mem_cons_self
  dsimp only at hL
  rw [hn] at hL
  have hvl : v.ownBlock ≠ some gl := fun e => h3 _ List.mem_cons_self gl e rfl
  refine ⟨⟨v, h1.other ⟨gl, y, none⟩ (h1.neR hL (by decide) rfl) _, ownsRow_setCell_other h2 (a := ⟨gl, y, none⟩) hvl _, fun p hp => ?_⟩, fun p hp => ?_, fun q hq => ?_, h.ko.trans (KeepsOthers.setCell _ _ _), h.base, h.most⟩
  · rcases List.mem_cons.1 hp with rfl | hp
    · exact fun g e e2 => h3 _ List.mem_cons_self g e e2
    · exact h3 p (List.mem_cons_of_mem _ hp)
  · rcases List.mem_cons.1 hp with rfl | hp
    · have := (World.ownsRow.stored hL y (.int .i64 x)).1
      dsimp only
      rw [List.length_set, hn, ← flat_setI]
      exact this
    · exact ownsRow_setCell_other (h.ks p (List.mem_cons_of_mem _ hp)) (a := ⟨gl, y, none⟩) (ha p hp) _
  · obtain ⟨b1, b2, b3, b4⟩ := h.bs q hq
    exact ⟨b1.other ⟨gl, y, none⟩ (b1.neR hL b4 rfl) _, b2, b3, b4⟩
theorem TL.add {B bo b : Nat} {vs : List (Value × List Int)} {qs : List (Nat × Value × TypeId)} {w9 z : World} {t : List Nat} {v : Value} {ty : TypeId} (h : TL B bo vs qs w9 t z) (hb : Bx z b #[v] ty) (hn : b ≠ bo) (h1 : 4 ≠ ty) (h2 : 3 ≠ ty) : TL B bo vs ((b, v, ty) :: qs) w9 t z :=
  ⟨h.ex, h.ks, fun q hq => by
    rcases List.mem_cons.1 hq with rfl | hq
    · exact ⟨hb, hn, h1, h2⟩
    · exact h.bs q hq, h.ko, h.base, h.most⟩
/-- the second half begins -/
theorem ph2 {B k ct gl : Nat} {w wr v1 : World} {at0 : Option Addr} {t : List Nat} (xB : Bx wr B #[.slice at0 t.length ct] 32) (oB : wr.ownsRow B 3 1 (.slice at0 t.length ct) t.length (nvs t)) (xP : Bx wr (B + 1) #[.slice none 0 0] 32) (hbel : Below B w wr) (hB : B ≤ wr.heap.size) (hgl : wr.heap.size = gl)
    (hown : v1.ownsRow B 3 1 (.slice (some ⟨gl, 0, none⟩) k k) k (madeCells (Value.int .i64 0).cells (k * 1)).toList) (hg : wr.grownBy v1 none) :
    Below B w v1 ∧ B ≤ v1.heap.size ∧ TL B (B + 1) [(.slice (some ⟨gl, 0, none⟩) k k, List.replicate k 0), (.slice at0 t.length ct, t.map fun (x : Nat) => (x : Int))] [(B, .slice at0 t.length ct, 32)] v1 [] v1 ∧ (Value.slice at0 t.length ct).ownBlock ≠ some gl := by
  have hb1 : Below wr.heap.size wr v1 := (Below.refl _ _).grown hg (Nat.le_refl _) (fun k h => by cases h)
  refine ⟨hbel.trans (hb1.mono hB), Nat.le_trans hB hb1.size, ⟨⟨_, xP.below hb1 xP.lt, World.ownsRow_nil _ _ _ _, fun p hp g e => by cases e⟩, fun p hp => ?_, fun q hq => ?_, KeepsOthers.refl _, Nat.le_succ _, Nat.zero_le _⟩, fun e => ?_⟩
  · rcases List.mem_cons.1 hp with rfl | hp
    · dsimp only
      rw [show (Value.int .i64 0).cells = #[.int .i64 0] by rfl, rep_made] at hown
      rw [List.length_replicate, show flat (List.replicate k (0 : Int)) = List.replicate k (Value.int .i64 0) by rw [flat_ints, List.map_replicate]]
      exact hown
    · rw [List.mem_singleton] at hp
      subst hp
      dsimp only
      rw [List.length_map, ← nvs_flat]
      exact own_belowR oB hb1 (Nat.le_refl _)
  · rw [List.mem_singleton] at hq
    subst hq
    exact ⟨xB.below hb1 xB.lt, (by dsimp only; omega), (by dsimp only; decide), (by dsimp only; decide)⟩
  · have := (oB.lt gl e).2
    omega
theorem unm_len : ∀ m : List Bool, unm m ≤ m.length
  | [] => Nat.le_refl _
  | a :: m => by
    have := unm_len m
    unfold unm at this ⊢
    cases a <;> simp <;> omega
/-- the cells of a row of numbers -/
theorem row_cell {B g c n : Nat} {z : World} {xs : List Int} (h : z.ownsRow B 3 1 (.slice (some ⟨g, 0, none⟩) n c) n (flat xs)) {i : Nat} {x : Int} (hx : xs[i]? = some x) : z.cell? ⟨g, i, none⟩ = some (.int .i64 x) ∧ z.frozen? ⟨g, i, none⟩ = false := by
  have h1 := h.cells rfl i (.int .i64 x) (by rw [flat_at, hx]; rfl)
  rw [addr_add, Nat.zero_add] at h1
  refine ⟨h1, ?_⟩
  rcases h.2 with ⟨hv, -⟩ | ⟨g', cap, cur, hv, -, hh, -⟩
  · cases hv
  · injection hv with e1 e2 e3
    injection e1 with e1
    injection e1 with e1
    subst e1
    simp [World.frozen?, hh]
theorem row_ncell {B g c : Nat} {z : World} {t : List Nat} (h : z.ownsRow B 3 1 (.slice (some ⟨g, 0, none⟩) t.length c) t.length (nvs t)) {i y : Nat} (hx : t[i]? = some y) : z.cell? ⟨g, i, none⟩ = some (.int .i64 (y : Int)) := by
  rw [nvs_flat] at h
  exact (row_cell h (by rw [List.getElem?_map, hx]; rfl)).1
/-- what is set while the list is gone through -/
structure Sl (s : List Nat) (z0 : Nat) (ls ls' : List Int) (i : Nat) : Prop where
  len : ls'.length = ls.length
  new : ∀ y ∈ s.take i, ls'[y]? = some (z0 : Int)
  old : ∀ y : Nat, y ∉ s.take i → ls'[y]? = ls[y]?
theorem Sl.start (s : List Nat) (z0 : Nat) (ls : List Int) : Sl s z0 ls ls 0 := ⟨rfl, fun y hy => by simp at hy, fun y _ => rfl⟩
theorem Sl.step {s : List Nat} {z0 i y : Nat} {ls ls' : List Int} (h : Sl s z0 ls ls' i) (hy : s[i]? = some y) (hl : y < ls.length) : Sl s z0 ls (ls'.set y (z0 : Int)) (i + 1) := by
  have ht : s.take (i + 1) = s.take i ++ [y] := by rw [List.take_add_one, hy]; rfl
  refine ⟨by rw [List.length_set]; exact h.len, fun u hu => ?_, fun u hu => ?_⟩
  · by_cases e : u = y
    · subst e; rw [List.getElem?_set_self (by rw [h.len]; exact hl)]
    · rw [List.getElem?_set_ne (fun e2 => e e2.symm)]
      rw [ht, List.mem_append, List.mem_singleton] at hu
      exact h.new u (hu.resolve_right e)
  · rw [ht, List.mem_append, List.mem_singleton, not_or] at hu
    rw [List.getElem?_set_ne (fun e2 => hu.2 e2.symm)]
    exact h.old u hu.1
theorem mkzs (k : Nat) : ∀ (r : List Nat) (c : Nat), (∀ y ∈ r, y < k) → ∃ zs : List (Nat × { y : Nat // y < k }), zs.length = r.length ∧ zs.map (fun p => p.2.1) = r ∧ ∀ (j : Nat) p, zs[j]? = some p → p.1 = c - j
  | [], c, _ => ⟨[], rfl, rfl, fun j p h => by simp at h⟩
  | y :: r, c, h => by
    obtain ⟨zs, h1, h2, h3⟩ := mkzs k r (c - 1) (fun y hy => h y (List.mem_cons_of_mem _ hy))
    refine ⟨(c, ⟨y, h y List.mem_cons_self⟩) :: zs, by simp [h1], by simp [h2], fun j p hp => ?_⟩
    cases j with
    | zero => simp at hp; subst hp; rfl
    | succ j => rw [List.getElem?_cons_succ] at hp; rw [h3 j p hp]; omega
end Go.Proofs.YtgijcbipnjmhgabGreat
