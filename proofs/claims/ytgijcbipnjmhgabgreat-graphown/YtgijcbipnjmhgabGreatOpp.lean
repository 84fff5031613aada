import Derived.Test.YtgijcbipnjmhgabGreatKs0
import Derived.SizedLaws
import Derived.JoinedCond
import Derived.Lib.SmallJoins
namespace Go.Proofs.YtgijcbipnjmhgabGreat
open Go.ChangeShapes Go.WideShapes Go.ChangeAt Go.RowKit Go.Deep
set_option linter.unusedVariables false
set_option maxRecDepth 100000

theorem own : ownKnob Tryz.prog.godebug = none := by kernel_rfl
theorem laidOut : laidOutB Tryz.prog = true := by kernel_rfl
theorem cellsPr : Tryz.prog.cellsOf 51 = 2 := by kernel_rfl
theorem cellsInt : Tryz.prog.cellsOf 3 = 1 := by kernel_rfl
theorem bytesPr : Tryz.prog.bytesOf 51 = 16 := by kernel_rfl

/-- a list that came in: what lies there, element by element -/
theorem open_rows {α : Type} [Rw α] {H : Type} {enc : TypeId × Value → H} {w : World} {fuel : Nat} {a : Option Addr} {len cap : Nat} {x : DataW H × List MemPlace} (fit : α → Prop) (dat : α → DataW H) (tS tE : TypeId) (e0 : α)
    (hS : Tryz.prog.underlying tS = some (.slice tE)) (hk : Tryz.prog.cellsOf tE = Rw.k α)
    (elem : ∀ fuel cs x, DataW.trod enc Tryz.prog w 0 (fun _ => true) true fuel tE cs = some x → cs.length = Rw.k α → ∃ e : α, fit e ∧ x.1 = dat e ∧ cs = Rw.cs e)
    (h : DataW.trod enc Tryz.prog w 0 (fun _ => true) true fuel tS [.slice a len cap] = some x) :
    ∃ xs : List α, xs.length = len ∧ LiesA w a xs ∧ (∀ e ∈ xs, fit e) ∧ (a = none → len = 0 ∧ cap = 0) ∧
      ((x.1 = .nil ∧ xs = []) ∨ ∃ sp, x.1 = .slice (xs.map dat) sp) ∧ len ≤ cap := by
  rcases open_slice hS h with ⟨hcs, hx⟩ | ⟨ad, l, c, m, n, D, Pl, hcs, _, hl, hm, hmm, hx, hel⟩
  · simp only [List.cons.injEq, Value.slice.injEq, and_true] at hcs
    obtain ⟨rfl, rfl, rfl⟩ := hcs
    exact ⟨[], rfl, .inl rfl, by simp, fun _ => ⟨rfl, rfl⟩, .inl ⟨by rw [hx], rfl⟩, Nat.le_refl _⟩
  · simp only [List.cons.injEq, Value.slice.injEq, and_true] at hcs
    obtain ⟨rfl, rfl, rfl⟩ := hcs
    simp only [if_true] at hmm
    subst hmm
    have each : ∀ i, i < len → ∃ e : α, fit e ∧ D i = dat e ∧ ∀ r u, (Rw.cs e)[r]? = some u → w.cell? (ad.add (i * Rw.k α + r)) = some u := by
      intro i hi
      obtain ⟨cs', h1, h2⟩ := hel i (by omega)
      rw [hk] at h1
      obtain ⟨_, hlen, hcell⟩ := World.cells?_some h1
      obtain ⟨e, he1, he2, he3⟩ := elem _ _ _ h2 hlen
      refine ⟨e, he1, he2, fun r u hu => ?_⟩
      have hr : r < Rw.k α := by have := (List.getElem?_eq_some_iff.1 hu).1; rw [Rw.len] at this; exact this
      have := hcell r hr
      rw [add_add, he3, hu] at this
      exact this
    have ne : Nonempty α := ⟨e0⟩
    obtain ⟨E, hE⟩ : ∃ E : Nat → α, ∀ i, i < len → fit (E i) ∧ D i = dat (E i) ∧ ∀ r u, (Rw.cs (E i))[r]? = some u → w.cell? (ad.add (i * Rw.k α + r)) = some u := by
      have : ∀ i, ∃ e : α, i < len → fit e ∧ D i = dat e ∧ ∀ r u, (Rw.cs e)[r]? = some u → w.cell? (ad.add (i * Rw.k α + r)) = some u := by
        intro i
        by_cases hi : i < len
        · obtain ⟨e, he⟩ := each i hi
          exact ⟨e, fun _ => he⟩
        · exact ⟨e0, fun h => absurd h hi⟩
      exact ⟨fun i => Classical.choose (this i), fun i => Classical.choose_spec (this i)⟩
    refine ⟨(List.range len).map E, by simp, ?_, ?_, by simp, .inr ⟨(List.range (m - len)).map fun j => D (len + j), ?_⟩, hl⟩
    · by_cases h0 : len = 0
      · exact .inl (by simp [h0])
      · obtain ⟨b, off, spot⟩ := ad
        have hpos : 0 < (Rw.cs (E 0)).length := by rw [Rw.len]; exact Rw.pos
        have hc0 := (hE 0 (by omega)).2.2 0 _ (List.getElem?_eq_getElem hpos)
        have hspot : spot = none := by simpa [Addr.add] using World.cell?_spot hc0
        subst hspot
        have hb : b < w.heap.size := by
          have := hc0
          simp [Addr.add] at this
          exact World.block_lt_of_cell? _ _ this
        refine .inr ⟨b, off, rfl, hb, fun j u hj => ?_⟩
        have hkp : 0 < Rw.k α := Rw.pos
        have ej : j = j / Rw.k α * Rw.k α + j % Rw.k α := by rw [Nat.mul_comm]; exact (Nat.div_add_mod j _).symm
        rw [ej, flat_get _ _ _ (Nat.mod_lt _ hkp)] at hj
        obtain ⟨e, he, hu⟩ := Option.bind_eq_some_iff.1 hj
        have hi : j / Rw.k α < len := by
          have := (List.getElem?_eq_some_iff.1 he).1
          simpa using this
        have he' : E (j / Rw.k α) = e := by simpa [hi] using he
        subst he'
        have := (hE _ hi).2.2 _ _ hu
        rw [addr_add] at this
        rw [ej]
        exact this
    · intro e he
      simp only [List.mem_map, List.mem_range] at he
      obtain ⟨i, hi, rfl⟩ := he
      exact (hE i hi).1
    · rw [hx]
      simp only [List.map_map]
      congr 1
      exact List.map_congr_left fun i hi => (hE i (List.mem_range.1 hi)).2.1

/-- what a pair reads as -/
def prData {H : Type} (e : Pr) : DataW H := .agg [.lit (.int .i64 e.a), .lit (.int .i64 e.b)]
def PrFit (e : Pr) : Prop := (-9223372036854775808 ≤ e.a ∧ e.a ≤ 9223372036854775807) ∧ -9223372036854775808 ≤ e.b ∧ e.b ≤ 9223372036854775807
theorem elem_pr {H : Type} {enc : TypeId × Value → H} {w : World} : ∀ fuel cs x, DataW.trod enc Tryz.prog w 0 (fun _ => true) true fuel 51 cs = some x → cs.length = Rw.k Pr → ∃ e : Pr, PrFit e ∧ x.1 = prData e ∧ cs = Rw.cs e := by
  intro fuel cs x h hl
  obtain ⟨xs, m, rfl, hx, _, hn, hel⟩ := DataW.trod_array (P := Tryz.prog) (t := 51) (n := 2) (e := 3) (by kernel_rfl) h
  match cs, hl with
  | [v0, v1], _ =>
    match xs, hn with
    | [y0, y1], _ =>
      have g0 := hel 0 (by decide)
      have g1 := hel 1 (by decide)
      simp only [cellsInt] at g0 g1
      obtain ⟨f, e0, h0, w0⟩ := DataW.trod_int Tryz.underlying3 g0
      obtain ⟨t, e1, h1, w1⟩ := DataW.trod_int Tryz.underlying3 g1
      simp at e0 e1
      subst e0 e1
      refine ⟨⟨f, t⟩, ⟨bounds_i64 w0, bounds_i64 w1⟩, ?_, rfl⟩
      rw [hx, h0, h1]
      rfl
theorem pairs_size {H : Type} {ps : List Pr} {d : DataW H} (h : (d = .nil ∧ ps = []) ∨ ∃ sp, d = .slice (ps.map prData) sp) {ts : List TypeId} {ds : List (DataW H)}
    (hsz : (DataW.weightsEach Tryz.prog ts ds).all (· ≤ reachBytes) = true) {j : Nat} (ht : ts[j]? = some 22) (hd : ds[j]? = some d) : ps.length * 16 ≤ 140737488351232 := by
  rcases h with ⟨_, rfl⟩ | ⟨sp, rfl⟩
  · simp
  · have := sized_slice hsz (j := j) (t := 22) (e := 51) ht hd Tryz.underlying22
    rw [bytesPr] at this
    simp only [List.length_map, reachBytes] at this
    omega
end Go.Proofs.YtgijcbipnjmhgabGreat
