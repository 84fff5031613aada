import Derived.Test.YteolfolkolpehaaDoorOwB
namespace Go.Proofs.YteolfolkolpehaaDoor
open Go.ChangeShapes Go.WideShapes Go.ChangeAt Go.RowKit
set_option linter.unusedVariables false

/-- the shelf alone, at a turn's beginning and end -/
structure Ow0 (b B n : Nat) (w0 w : World) (V U : Value) (rs us : List Rr) : Prop where
  box : Bx w b (bxA V U) 54
  she : She 45 22 3 B w V U rs us
  sti : Sti rs us
  len : rs.length = n
  low : ∀ g, g < B → g ≠ b → w.heap[g]? = w0.heap[g]?
  bel : Below b w0 w
  sz : B ≤ w.heap.size
  bB : b < B
theorem Ow.zero {b B n : Nat} {w0 w : World} {V U : Value} {rs us : List Rr} {gc gd : Nat} {xa xb : List Ed} (h : Ow b B n w0 w V U rs us gc gd xa xb) : Ow0 b B n w0 w V U rs us := ⟨h.box, h.she, h.sti, h.len, h.low, h.bel, h.sz, h.bB⟩
theorem Ow0.below {b B n : Nat} {w0 w w' : World} {V U : Value} {rs us : List Rr} (h : Ow0 b B n w0 w V U rs us) (hb : Below w.heap.size w w') : Ow0 b B n w0 w' V U rs us :=
  ⟨h.box.below hb h.box.lt, h.she.below hb, h.sti, h.len, fun g hg hne => (hb.block g (Nat.lt_of_lt_of_le hg h.sz)).trans (h.low g hg hne), h.bel.trans (hb.mono (by have := h.sz; have := h.bB; omega)), Nat.le_trans h.sz hb.size, h.bB⟩
/-- two lists are lent -/
theorem Ow0.lent {b B n : Nat} {w0 w w1 w2 : World} {V U : Value} {rs us : List Rr} {xa xb : List Ed} (h : Ow0 b B n w0 w V U rs us) (h1 : Below w.heap.size w w1) (r1 : w1.ownsRow w.heap.size 45 3 (.slice (some ⟨w.heap.size, 0, none⟩) (xa.length + 3) (xa.length + 3)) (xa.length + 3) (flat (xa ++ marks))) (h2 : Below w1.heap.size w1 w2) (r2 : w2.ownsRow w1.heap.size 45 3 (.slice (some ⟨w1.heap.size, 0, none⟩) (xb.length + 3) (xb.length + 3)) (xb.length + 3) (flat (xb ++ marks))) :
    Ow b B n w0 w2 V U rs us w.heap.size w1.heap.size xa xb := by
  have h' := (h.below h1).below h2
  have hs1 := h1.size
  refine ⟨h'.box, h'.she, h'.sti, h'.len, h'.low, h'.bel, h'.sz, h'.bB, own_belowR (own_low r1 h.sz) h2 (Nat.le_refl _), own_low r2 (Nat.le_trans h.sz hs1), fun q hq => ?_⟩
  have hlt := (h.she.each q hq).lt
  exact ⟨fun h3 => by have := (hlt _ h3).2; omega, fun h3 => by have := (hlt _ h3).2; omega⟩
/-- what was there ahead of the turns is there still -/
theorem Ow0.keepA {b B n : Nat} {w0 w : World} {V U : Value} {rs us : List Rr} (h : Ow0 b B n w0 w V U rs us) (hB : B = w0.heap.size) (hx0 : Bx w0 b (bxA (.slice none 0 0) (.slice none 0 0)) 54) {a : Option Addr} {L : List Ed} (he : EdsA w0 a L) : EdsA w a L := by
  rcases he with he | ⟨g, o, ha, hE⟩
  · exact .inl he
  · cases L with
    | nil => exact .inl rfl
    | cons e r =>
      right
      have hg : g ≠ b := fun hgb => by
        have h1 := (hE.2 0 e rfl).1
        rw [hgb, hx0.cell] at h1
        have h2 : bxA (.slice none 0 0) (.slice none 0 0) = Array.replicate 12 (.slice none 0 0) := rfl
        rw [h2, Array.getElem?_replicate] at h1
        split at h1
        · cases h1
        · cases h1
      have hgl : g < B := by rw [hB]; exact hE.1
      have hblk := h.low g hgl hg
      have hcell : ∀ i, w.cell? ⟨g, i, none⟩ = w0.cell? ⟨g, i, none⟩ := fun i => by unfold World.cell?; rw [hblk]
      refine ⟨g, o, ha, Nat.lt_of_lt_of_le hgl h.sz, fun i e he => ?_⟩
      obtain ⟨q1, q2, q3⟩ := hE.2 i e he
      exact ⟨(hcell _).trans q1, (hcell _).trans q2, (hcell _).trans q3⟩
theorem She.other {e te : TypeId} {k B : Nat} {w : World} {V U : Value} {rs us : List Rr} (h : She e te k B w V U rs us) {g : Nat} (hq : ∀ q ∈ rs ++ us, q.v.ownBlock ≠ some g) (hV : V.ownBlock ≠ some g) (hU : U.ownBlock ≠ some g) (m : Nat) (x : Value) : She e te k B (w.setCell ⟨g, m, none⟩ x) V U rs us :=
  ⟨ownsRow_setCell_other h.outV (a := ⟨g, m, none⟩) hV x, ownsRow_setCell_other h.outU (a := ⟨g, m, none⟩) hU x, fun r hr => ownsRow_setCell_other (h.each r hr) (a := ⟨g, m, none⟩) (hq r hr) x, h.apart, h.outs⟩
/-- a lent list, whatever is in it by now -/
structure Ln (B : Nat) (w : World) (rs us : List Rr) (g n : Nat) : Prop where
  own : ∃ ys, w.ownsRow B 45 3 (.slice (some ⟨g, 0, none⟩) (n + 3) (n + 3)) (n + 3) ys
  ac : ∀ q ∈ rs ++ us, q.v.ownBlock ≠ some g
theorem Ow0.write {b B n : Nat} {w0 w : World} {V U : Value} {rs us : List Rr} (h : Ow0 b B n w0 w V U rs us) {g m : Nat} (hl : Ln B w rs us g m) (i : Nat) (x : Value) : Ow0 b B n w0 (w.setCell ⟨g, i, none⟩ x) V U rs us := by
  obtain ⟨ys, ho⟩ := hl.own
  have hgl := ho.lt g rfl
  have hbB := h.bB
  refine ⟨h.box.other ⟨g, i, none⟩ (by show b ≠ g; omega) x, h.she.other hl.ac (own_otherR h.she.outV ho (by decide) rfl) (own_otherR h.she.outU ho (by decide) rfl) i x, h.sti, h.len, fun g' hg' hne => ?_, h.bel.setCell (p := ⟨g, i, none⟩) (by show b ≤ g; omega) _, by have := h.sz; simpa using this, h.bB⟩
  rw [heap_setCell_other _ _ _ _ (by show g' ≠ g; omega)]
  exact h.low g' hg' hne
theorem Ln.write {B : Nat} {w : World} {rs us : List Rr} {g m : Nat} (hl : Ln B w rs us g m) (i : Nat) (x : Value) : Ln B (w.setCell ⟨g, i, none⟩ x) rs us g m := by
  obtain ⟨ys, ho⟩ := hl.own
  exact ⟨⟨_, (ho.stored i x).1⟩, hl.ac⟩
theorem Ln.other {B : Nat} {w : World} {rs us : List Rr} {g g' m : Nat} (hl : Ln B w rs us g m) (hne : g ≠ g') (i : Nat) (x : Value) : Ln B (w.setCell ⟨g', i, none⟩ x) rs us g m := by
  obtain ⟨ys, ho⟩ := hl.own
  exact ⟨⟨ys, ownsRow_setCell_other ho (a := ⟨g', i, none⟩) (fun h => hne (Option.some.inj h)) x⟩, hl.ac⟩
theorem Ln.at {B : Nat} {w : World} {rs us : List Rr} {g m : Nat} (hl : Ln B w rs us g m) {i : Nat} (hi : i < m) : (∃ u, w.cell? ⟨g, i * 3, none⟩ = some u) ∧ (∃ u, w.cell? ⟨g, i * 3 + 1, none⟩ = some u) ∧ (∃ u, w.cell? ⟨g, i * 3 + 2, none⟩ = some u) ∧ ∀ j, w.frozen? ⟨g, j, none⟩ = false := by
  obtain ⟨ys, ho⟩ := hl.own
  have hl3 := ho.1
  have key : ∀ j, j < ys.length → ∃ u, w.cell? ⟨g, j, none⟩ = some u := fun j hj => by
    have := ho.cells rfl j _ (List.getElem?_eq_getElem hj)
    rw [addr_addR] at this
    exact ⟨_, this⟩
  exact ⟨key _ (by omega), key _ (by omega), key _ (by omega), fun j => ho.frozenAt j⟩
theorem Ow.lnC {b B n : Nat} {w0 w : World} {V U : Value} {rs us : List Rr} {gc gd : Nat} {xa xb : List Ed} (h : Ow b B n w0 w V U rs us gc gd xa xb) : Ln B w rs us gc xa.length ∧ Ln B w rs us gd xb.length :=
  ⟨⟨⟨_, h.rc⟩, fun q hq => (h.ac q hq).1⟩, ⟨⟨_, h.rd⟩, fun q hq => (h.ac q hq).2⟩⟩
/-- the lent lists, as lists -/
theorem Ow.edsC {b B n : Nat} {w0 w : World} {V U : Value} {rs us : List Rr} {gc gd : Nat} {xa xb : List Ed} (h : Ow b B n w0 w V U rs us gc gd xa xb) : Eds w gc 0 (xa ++ marks) ∧ Eds w gd 0 (xb ++ marks) := ⟨Eds.own h.rc, Eds.own h.rd⟩
theorem Eds.frontC {w : World} {g o : Nat} {xs ys : List Ed} (h : Eds w g o (xs ++ ys)) : Eds w g o xs := ⟨h.1, fun i e he => h.2 i e (by rw [List.getElem?_append_left (List.getElem?_eq_some_iff.1 he).1]; exact he)⟩
end Go.Proofs.YteolfolkolpehaaDoor
