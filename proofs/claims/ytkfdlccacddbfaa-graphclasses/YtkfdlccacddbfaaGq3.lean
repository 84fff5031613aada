import Derived.Test.YtkfdlccacddbfaaGq1
import Derived.Test.YtkfdlccacddbfaaGp2
import Derived.ArgAppend
namespace Go.Proofs.Ytkfdlccacddbfaa
open Go.ChangeShapes Go.WideShapes Go.ChangeAt Go.RowKit
set_option linter.unusedVariables false
set_option linter.unusedSimpArgs false

/-- a row of ints of the call's own, from some place of its block on -/
def Qu (B : Nat) (w : World) (v : Value) (xs : List Nat) : Prop := ∃ g off cap cur, v = .slice (some ⟨g, off, none⟩) xs.length cap ∧ B ≤ g ∧ w.heap[g]? = some (.cells cur 3 (0, 0)) ∧ xs.length ≤ cap ∧ off + cap ≤ cur.size ∧ ∀ (j x : Nat), xs[j]? = some x → cur[off + j]? = some (.int .i64 (x : Int))
theorem cell_cur {w : World} {g i : Nat} {cur : Array Value} {e : TypeId} (h : w.heap[g]? = some (.cells cur e (0, 0))) : w.cell? ⟨g, i, none⟩ = cur[i]? ∧ w.frozen? ⟨g, i, none⟩ = false := by
  simp [World.cell?, World.frozen?, h]
theorem Qu.below {B C : Nat} {w w' : World} {v : Value} {xs : List Nat} (h : Qu B w v xs) (hb : Below C w w') (hC : w.heap.size ≤ C) : Qu B w' v xs := by
  obtain ⟨g, off, cap, cur, h1, h2, h3, h4, h5, h6⟩ := h
  exact ⟨g, off, cap, cur, h1, h2, (hb.block g (Nat.lt_of_lt_of_le (lt_of_block h3) hC)).trans h3, h4, h5, h6⟩
/-- another block is written -/
theorem Qu.far {B g i : Nat} {w : World} {v x : Value} {xs : List Nat} {cs : Array Value} {t : TypeId} {fz : Nat × Nat} (h : Qu B w v xs) (hg : w.heap[g]? = some (.cells cs t fz)) (ht : t ≠ 3) : Qu B (w.setCell ⟨g, i, none⟩ x) v xs := by
  obtain ⟨g1, off, cap, cur, h1, h2, h3, h4, h5, h6⟩ := h
  have hne : g1 ≠ g := fun e => by rw [e, hg] at h3; cases h3; exact ht rfl
  exact ⟨g1, off, cap, cur, h1, h2, (heap_setCell_other w ⟨g, i, none⟩ g1 x hne).trans h3, h4, h5, h6⟩
theorem Qu.first (B : Nat) (w : World) (x : Nat) (hB : B ≤ w.heap.size) : Qu B (w.alloc (.cells #[.int .i64 (x : Int)] 3)) (.slice (some ⟨w.heap.size, 0, none⟩) 1 1) [x] :=
  ⟨w.heap.size, 0, 1, _, rfl, hB, heap_alloc_new w _, Nat.le_refl _, Nat.le_refl _, fun j y hj => by
    cases j with
    | zero => simp at hj; subst hj; rfl
    | succ j => simp at hj⟩
/-- the first one is taken off -/
theorem Qu.pop {B : Nat} {w : World} {v : Value} {x : Nat} {xs : List Nat} (h : Qu B w v (x :: xs)) : ∃ g off cap, v = .slice (some ⟨g, off, none⟩) (xs.length + 1) cap ∧ xs.length + 1 ≤ cap ∧ w.cell? ⟨g, off, none⟩ = some (.int .i64 (x : Int)) ∧ (cap = 1 → Qu B w (.slice (some ⟨g, off, none⟩) xs.length 0) xs) ∧ Qu B w (.slice (some ⟨g, off + 1, none⟩) xs.length (cap - 1)) xs := by
  obtain ⟨g, off, cap, cur, h1, h2, h3, h4, h5, h6⟩ := h
  simp only [List.length_cons] at h1 h4
  refine ⟨g, off, cap, h1, h4, ?_, fun hc => ?_, ⟨g, off + 1, cap - 1, cur, rfl, h2, h3, by omega, by omega, fun j y hj => ?_⟩⟩
  · rw [(cell_cur h3).1]
    exact h6 0 x rfl
  · have hx : xs = [] := List.eq_nil_of_length_eq_zero (by omega)
    subst hx
    exact ⟨g, off, 0, cur, rfl, h2, h3, Nat.le_refl _, by omega, fun j y hj => by cases hj⟩
  · have := h6 (j + 1) y (by simpa using hj)
    rw [show off + 1 + j = off + (j + 1) by omega]
    exact this
/-- one more at the end, for the walk -/
theorem wpList_que {P : Program} (w : World) {ops : Array Oper} {rest : List Oper} {o : Oper} {a : Act} {Q : Exit → Act → World → Prop}
    (hg : o.guard = none) (s x : Operand) (t : TypeId) (hop : o.op = Op.call { callee := Callee.builtin Builtin.append, args := #[s, x], argTypes := #[t, t] })
    (i : TypeInfo) (z : Value) (h1 : P.underlying t = some (.slice 3)) (h2 : P.info? 3 = some i) (h3 : i.zero = some z) (h4 : i.size = 1) (h5 : i.bytes = 8) (h6 : z.cells.size = 1)
    (B : Nat) (v : Value) (xs : List Nat) (y : Nat) (hs : a.eval s = v) (hq : Qu B w v xs) (hB : B ≤ w.heap.size) (ad : Addr) (hx : a.eval x = .slice (some ad) 1 1) (hc : w.cell? ad = some (.int .i64 (y : Int))) (hl : xs.length ≤ 131072)
    (hK : ∀ v' w', Qu B w' v' (xs ++ [y]) → w.grownBy w' v.ownBlock → wpList P ops Q rest (a.put o.dst v') w') : wpList P ops Q (o :: rest) a w := by
  obtain ⟨g, off, cap, cur, rfl, hgB, hh, hle, hsz, hel⟩ := hq
  have hadd : ∀ j u, [Value.int .i64 (y : Int)][j]? = some u → w.cell? (ad.add j) = some u := fun j u hj => by
    cases j with
    | zero => simp at hj; subst hj; unfold Addr.add; simpa using hc
    | succ j => simp at hj
  refine wpList_append_arg w hg s x t hop 3 i z 1 8 h1 h2 h3 h4 h5 h6 (by decide) g off xs.length cap (xs.map fun (x : Nat) => Value.int .i64 (x : Int)) hs (by simp) (fun j u hj => ?_) ad 1 1 [Value.int .i64 (y : Int)] hx rfl hadd (by intro u hu; simp at hu; subst hu; rfl) (fun hr j hj => ?_) (by unfold maxLen; omega) (by omega) (fun hr => ?_) (fun hr v' w' hown hgr => ?_)
  · rw [List.getElem?_map] at hj
    obtain ⟨x1, hx1, rfl⟩ := Option.map_eq_some_iff.1 hj
    rw [(cell_cur hh).1]
    exact hel j x1 hx1
  · have hj0 : j = 0 := by simp at hj; exact hj
    subst hj0
    rw [(cell_cur hh).1, (cell_cur hh).2]
    exact ⟨by rw [Array.getElem?_eq_getElem (by omega)]; rfl, rfl⟩
  · refine hK _ _ ⟨g, off, cap, (cur.setIfInBounds (off + xs.length) (.int .i64 (y : Int))), by simp, hgB, ?_, by simp; omega, by simp; omega, fun j x1 hj => ?_⟩ ⟨rfl, rfl, rfl, by simp [World.setCells, World.setCell], fun k hk hne => ?_⟩
    · show (w.setCell ⟨g, off + xs.length * 1, none⟩ _).heap[g]? = _
      rw [Nat.mul_one]
      have := heap_setCell_same w g (off + xs.length) _ _ (.int .i64 (y : Int)) hh
      simpa using this
    · by_cases hjl : j < xs.length
      · rw [List.getElem?_append_left hjl] at hj
        rw [Array.getElem?_setIfInBounds, if_neg (by omega)]
        exact hel j x1 hj
      · rw [List.getElem?_append_right (by omega)] at hj
        have hj0 : j = xs.length := by
          have := (List.getElem?_eq_some_iff.1 hj).1
          simp at this
          omega
        subst hj0
        simp at hj
        subst hj
        rw [Array.getElem?_setIfInBounds, if_pos rfl, if_pos (by omega)]
    · show (w.setCell ⟨g, off + xs.length * 1, none⟩ _).heap[k]? = _
      exact heap_setCell_other w _ k _ (fun e => hne (by rw [e]; rfl))
  · refine hK v' w' ?_ ⟨hgr.os, hgr.tape, hgr.output, hgr.size, fun k hk _ => hgr.block k hk (by simp)⟩
    rcases hown.2 with ⟨_, h0⟩ | ⟨g', cap', cur', rfl, hb', hh', hn', hc', hs', ht'⟩
    · omega
    · refine ⟨g', 0, cap', cur', by simp, Nat.le_trans hB hb', hh', by simpa using hn', by omega, fun j x1 hj => ?_⟩
      have hjl := (List.getElem?_eq_some_iff.1 hj).1
      simp only [List.length_append, List.length_cons, List.length_nil] at hjl
      have h9 : (cur'.toList.take ((xs.length + 1) * 1))[j]? = ((xs.map fun (x : Nat) => Value.int .i64 (x : Int)) ++ [Value.int .i64 (y : Int)])[j]? := by rw [ht']
      rw [List.getElem?_take, if_pos (by omega)] at h9
      rw [Nat.zero_add, ← Array.getElem?_toList, h9]
      have h8 : ((xs.map fun (x : Nat) => Value.int .i64 (x : Int)) ++ [Value.int .i64 (y : Int)]) = (xs ++ [y]).map fun (x : Nat) => Value.int .i64 (x : Int) := by simp
      rw [h8, List.getElem?_map, hj]
      rfl
end Go.Proofs.Ytkfdlccacddbfaa
