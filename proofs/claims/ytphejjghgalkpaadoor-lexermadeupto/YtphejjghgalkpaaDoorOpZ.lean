import Derived.Test.YtphejjghgalkpaaDoorMadeW
import Derived.Test.YtphejjghgalkpaaDoorRows
import Derived.SizedLaws
import Derived.JoinedCond
import Derived.Lib.SmallJoins
namespace Go.Proofs.YtphejjghgalkpaaDoor
open Go.ChangeShapes Go.WideShapes Go.ChangeAt Go.RowKit Go.Deep
set_option linter.unusedVariables false
set_option maxRecDepth 100000

theorem laidOutZ : laidOutB Tryd.prog = true := by kernel_rfl
theorem cellsIntZ : Tryd.prog.cellsOf 3 = 1 := by kernel_rfl
theorem cellsPz : Tryd.prog.cellsOf 36 = 2 := by kernel_rfl
/-- a list that came in: what lies there, element by element -/
theorem open_rows {α : Type} [Rw α] {H : Type} {enc : TypeId × Value → H} {w : World} {fuel : Nat} {a : Option Addr} {len cap : Nat} {x : DataW H × List MemPlace} (fit : α → Prop) (dat : α → DataW H) (tS tE : TypeId) (e0 : α)
    (hS : Tryd.prog.underlying tS = some (.slice tE)) (hk : Tryd.prog.cellsOf tE = Rw.k α)
    (elem : ∀ fuel cs x, DataW.trod enc Tryd.prog w 0 (fun _ => true) true fuel tE cs = some x → cs.length = Rw.k α → ∃ e : α, fit e ∧ x.1 = dat e ∧ cs = Rw.cs e)
    (h : DataW.trod enc Tryd.prog w 0 (fun _ => true) true fuel tS [.slice a len cap] = some x) :
    ∃ xs : List α, xs.length = len ∧ LiesA w a xs ∧ (∀ e ∈ xs, fit e) ∧ (a = none → len = 0 ∧ cap = 0) ∧
      ((x.1 = .nil ∧ xs = []) ∨ ∃ sp, x.1 = .slice (xs.map dat) sp) ∧ len ≤ cap := by
  rcases open_slice hS h with ⟨hcs, hx⟩ | ⟨ad, l, c, m, n, D, Pl, hcs, _, hl, hm, hmm, hx, hel⟩
  · simp only [List.cons.injEq, Value.slice.injEq, and_true] at hcs
    obtain ⟨rfl, rfl, rfl⟩ := hcs
    exact ⟨[], rfl, .inl rfl, by simp, fun _ => ⟨rfl, rfl⟩, .inl ⟨by rw [hx], rfl⟩, Nat.le_refl _⟩
  · simp only [List.cons.injEq, Value.slice.injEq, and_true] at hcs
    obtain ⟨rfl, rfl, rfl⟩ := hcs
    simp only [if_true] at hmm
    subst hmm
    have each : ∀ i, i < len → ∃ e : α, fit e ∧ D i = dat e ∧ ∀ r u, (Rw.cs e)[r]? = some u → w.cell? (ad.add (i * Rw.k α + r)) = some u := by
      intro i hi
      obtain ⟨cs', h1, h2⟩ := hel i (by omega)
      rw [hk] at h1
      obtain ⟨_, hlen, hcell⟩ := World.cells?_some h1
      obtain ⟨e, he1, he2, he3⟩ := elem _ _ _ h2 hlen
      refine ⟨e, he1, he2, fun r u hu => ?_⟩
      have hr : r < Rw.k α := by have := (List.getElem?_eq_some_iff.1 hu).1; rw [Rw.len] at this; exact this
      have := hcell r hr
      rw [add_add, he3, hu] at this
      exact this
    have ne : Nonempty α := ⟨e0⟩
    obtain ⟨E, hE⟩ : ∃ E : Nat → α, ∀ i, i < len → fit (E i) ∧ D i = dat (E i) ∧ ∀ r u, (Rw.cs (E i))[r]? = some u → w.cell? (ad.add (i * Rw.k α + r)) = some u := by
      have : ∀ i, ∃ e : α, i < len → fit e ∧ D i = dat e ∧ ∀ r u, (Rw.cs e)[r]? = some u → w.cell? (ad.add (i * Rw.k α + r)) = some u := by
        intro i
        by_cases hi : i < len
        · obtain ⟨e, he⟩ := each i hi
          exact ⟨e, fun _ => he⟩
        · exact ⟨e0, fun h => absurd h hi⟩
      exact ⟨fun i => Classical.choose (this i), fun i => Classical.choose_spec (this i)⟩
    refine ⟨(List.range len).map E, by simp, ?_, ?_, by simp, .inr ⟨(List.range (m - len)).map fun j => D (len + j), ?_⟩, hl⟩
    · by_cases h0 : len = 0
      · exact .inl (by simp [h0])
      · obtain ⟨b, off, spot⟩ := ad
        have hpos : 0 < (Rw.cs (E 0)).length := by rw [Rw.len]; exact Rw.pos
        have hc0 := (hE 0 (by omega)).2.2 0 _ (List.getElem?_eq_getElem hpos)
        have hspot : spot = none := by simpa [Addr.add] using World.cell?_spot hc0
        subst hspot
        have hb : b < w.heap.size := by
          have := hc0
          simp [Addr.add] at this
          exact World.block_lt_of_cell? _ _ this
        refine .inr ⟨b, off, rfl, hb, fun j u hj => ?_⟩
        have hkp : 0 < Rw.k α := Rw.pos
        have ej : j = j / Rw.k α * Rw.k α + j % Rw.k α := by rw [Nat.mul_comm]; exact (Nat.div_add_mod j _).symm
        rw [ej, flat_get _ _ _ (Nat.mod_lt _ hkp)] at hj
        obtain ⟨e, he, hu⟩ := Option.bind_eq_some_iff.1 hj
        have hi : j / Rw.k α < len := by
          have := (List.getElem?_eq_some_iff.1 he).1
          simpa using this
        have he' : E (j / Rw.k α) = e := by simpa [hi] using he
        subst he'
        have := (hE _ hi).2.2 _ _ hu
        rw [addr_add] at this
        rw [ej]
        exact this
    · intro e he
      simp only [List.mem_map, List.mem_range] at he
      obtain ⟨i, hi, rfl⟩ := he
      exact (hE i hi).1
    · rw [hx]
      simp only [List.map_map]
      congr 1
      exact List.map_congr_left fun i hi => (hE i (List.mem_range.1 hi)).2.1

/-- what a piece reads as -/
def pzData {H : Type} (e : Pz) : DataW H := .agg [.lit (.int .i64 e.a), .lit (.int .i64 e.b)]
theorem elem_pz {H : Type} {enc : TypeId × Value → H} {w : World} : ∀ fuel cs x, DataW.trod enc Tryd.prog w 0 (fun _ => true) true fuel 36 cs = some x → cs.length = Rw.k Pz → ∃ e : Pz, True ∧ x.1 = pzData e ∧ cs = Rw.cs e := by
  intro fuel cs x h hlen
  obtain ⟨y0, y1, k, hxy, _, g0, g1⟩ := trod_struct2 Tryd.underlying36 h
  match cs, hlen with
  | [v0, v1], _ =>
    simp only [cellsIntZ] at g0 g1
    obtain ⟨f, e1, rfl, w1⟩ := DataW.trod_int Tryd.underlying3 g0
    obtain ⟨t, e2, rfl, w2⟩ := DataW.trod_int Tryd.underlying3 g1
    simp at e1 e2
    subst e1 e2
    subst hxy
    exact ⟨⟨f, t⟩, trivial, rfl, rfl⟩
theorem okSlice {H : Type} {enc : TypeId × Value → H} {w : World} {fuel : Nat} {v : Value} {x : DataW H × List MemPlace} {tS tE : TypeId} (hS : Tryd.prog.underlying tS = some (.slice tE))
    (h : DataW.trod enc Tryd.prog w 0 (fun _ => true) true fuel tS [v] = some x) : ∃ a len cap, v = .slice a len cap := by
  rcases open_slice hS h with ⟨hcs, _⟩ | ⟨ad, l, c, m, n, D, Pl, hcs, _⟩
  · simp at hcs; exact ⟨_, _, _, hcs⟩
  · simp at hcs; exact ⟨_, _, _, hcs⟩

/-- the pieces that came in -/
theorem open_pieces {H : Type} {enc : TypeId × Value → H} {w : World} {r : Reach} {b0 : Nat} {v : Value} {d : DataW H} {p : List MemPlace} (hv : Value.okWide Tryd.prog w r b0 34 v) (h : DataW.Trod enc Tryd.prog w 0 (fun _ => true) true 34 v d p) :
    ∃ (a : Option Addr) (c : Nat) (ts : List Pz), v = .slice a ts.length c ∧ LiesA w a ts ∧ ((d = .nil ∧ ts = []) ∨ ∃ sp, d = .slice (ts.map pzData) sp) := by
  obtain ⟨a0, len0, cap0, rfl⟩ := okWide_slice Tryd.underlying34 hv
  obtain ⟨fuel, hf⟩ := h
  obtain ⟨a1, len1, c1, e1⟩ := okSlice Tryd.underlying34 hf
  obtain ⟨ts, rfl, p1, p2, p3, p4, p5⟩ := open_rows (fun _ => True) pzData 34 36 ⟨0, 0⟩ Tryd.underlying34 cellsPz elem_pz hf
  exact ⟨a0, cap0, ts, rfl, p1, p4⟩
theorem bulk_len {H : Type} (ds : List (DataW H)) : ds.length ≤ Rows.uptoBulkAll ds := by
  induction ds with
  | nil => simp
  | cons d r ih =>
    have : 1 ≤ Rows.uptoBulk d := by
      cases d with
      | lit l => cases l <;> simp [Rows.uptoBulk]
      | _ => simp [Rows.uptoBulk]
    simp only [List.length_cons, Rows.uptoBulkAll]
    omega

theorem bulk_pieces {H : Type} {d1 : DataW H} {xs : List Pz} (h : (d1 = .nil ∧ xs = []) ∨ ∃ sp, d1 = .slice (xs.map pzData) sp) : xs.length ≤ Rows.uptoBulk d1 := by
  rcases h with ⟨_, rfl⟩ | ⟨sp, rfl⟩
  · simp
  · have := bulk_len (H := H) (xs.map pzData); rw [List.length_map] at this; rw [Rows.uptoBulk]; omega
end Go.Proofs.YtphejjghgalkpaaDoor
