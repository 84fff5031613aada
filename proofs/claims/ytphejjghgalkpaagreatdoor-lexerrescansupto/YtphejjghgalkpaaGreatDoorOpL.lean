import Derived.Test.YtphejjghgalkpaaGreatDoorSmT
import Derived.Test.YtphejjghgalkpaaGreatDoorRows
import Derived.SizedLaws
import Derived.JoinedCond
import Derived.Lib.SmallJoins
namespace Go.Proofs.YtphejjghgalkpaaGreatDoor
open Go.ChangeShapes Go.WideShapes Go.ChangeAt Go.RowKit Go.Deep
set_option linter.unusedVariables false
set_option maxRecDepth 100000

theorem laidOut : laidOutB Tryz.prog = true := by kernel_rfl
theorem cellsTk : Tryz.prog.cellsOf 39 = 3 := by kernel_rfl
theorem cellsInt : Tryz.prog.cellsOf 3 = 1 := by kernel_rfl
theorem cellsStr : Tryz.prog.cellsOf 9 = 1 := by kernel_rfl
theorem cellsK1 : Tryz.prog.cellsOf 37 = 1 := by kernel_rfl
theorem cellsTks : Tryz.prog.cellsOf 22 = 1 := by kernel_rfl
theorem cellsEd : Tryz.prog.cellsOf 24 = 3 := by kernel_rfl
theorem cellsLs : Tryz.prog.cellsOf 26 = 5 := by kernel_rfl

/-- a list that came in: what lies there, element by element -/
theorem open_rows {α : Type} [Rw α] {H : Type} {enc : TypeId × Value → H} {w : World} {fuel : Nat} {a : Option Addr} {len cap : Nat} {x : DataW H × List MemPlace} (fit : α → Prop) (dat : α → DataW H) (tS tE : TypeId) (e0 : α)
    (hS : Tryz.prog.underlying tS = some (.slice tE)) (hk : Tryz.prog.cellsOf tE = Rw.k α)
    (elem : ∀ fuel cs x, DataW.trod enc Tryz.prog w 0 (fun _ => true) true fuel tE cs = some x → cs.length = Rw.k α → ∃ e : α, fit e ∧ x.1 = dat e ∧ cs = Rw.cs e)
    (h : DataW.trod enc Tryz.prog w 0 (fun _ => true) true fuel tS [.slice a len cap] = some x) :
    ∃ xs : List α, xs.length = len ∧ LiesA w a xs ∧ (∀ e ∈ xs, fit e) ∧ (a = none → len = 0 ∧ cap = 0) ∧
      ((x.1 = .nil ∧ xs = []) ∨ ∃ sp, x.1 = .slice (xs.map dat) sp) ∧ len ≤ cap := by
  rcases open_slice hS h with ⟨hcs, hx⟩ | ⟨ad, l, c, m, n, D, Pl, hcs, _, hl, hm, hmm, hx, hel⟩
  · simp only [List.cons.injEq, Value.slice.injEq, and_true] at hcs
    obtain ⟨rfl, rfl, rfl⟩ := hcs
    exact ⟨[], rfl, .inl rfl, by simp, fun _ => ⟨rfl, rfl⟩, .inl ⟨by rw [hx], rfl⟩, Nat.le_refl _⟩
  · simp only [List.cons.injEq, Value.slice.injEq, and_true] at hcs
    obtain ⟨rfl, rfl, rfl⟩ := hcs
    simp only [if_true] at hmm
    subst hmm
    have each : ∀ i, i < len → ∃ e : α, fit e ∧ D i = dat e ∧ ∀ r u, (Rw.cs e)[r]? = some u → w.cell? (ad.add (i * Rw.k α + r)) = some u := by
      intro i hi
      obtain ⟨cs', h1, h2⟩ := hel i (by omega)
      rw [hk] at h1
      obtain ⟨_, hlen, hcell⟩ := World.cells?_some h1
      obtain ⟨e, he1, he2, he3⟩ := elem _ _ _ h2 hlen
      refine ⟨e, he1, he2, fun r u hu => ?_⟩
      have hr : r < Rw.k α := by have := (List.getElem?_eq_some_iff.1 hu).1; rw [Rw.len] at this; exact this
      have := hcell r hr
      rw [add_add, he3, hu] at this
      exact this
    have ne : Nonempty α := ⟨e0⟩
    obtain ⟨E, hE⟩ : ∃ E : Nat → α, ∀ i, i < len → fit (E i) ∧ D i = dat (E i) ∧ ∀ r u, (Rw.cs (E i))[r]? = some u → w.cell? (ad.add (i * Rw.k α + r)) = some u := by
      have : ∀ i, ∃ e : α, i < len → fit e ∧ D i = dat e ∧ ∀ r u, (Rw.cs e)[r]? = some u → w.cell? (ad.add (i * Rw.k α + r)) = some u := by
        intro i
        by_cases hi : i < len
        · obtain ⟨e, he⟩ := each i hi
          exact ⟨e, fun _ => he⟩
        · exact ⟨e0, fun h => absurd h hi⟩
      exact ⟨fun i => Classical.choose (this i), fun i => Classical.choose_spec (this i)⟩
    refine ⟨(List.range len).map E, by simp, ?_, ?_, by simp, .inr ⟨(List.range (m - len)).map fun j => D (len + j), ?_⟩, hl⟩
    · by_cases h0 : len = 0
      · exact .inl (by simp [h0])
      · obtain ⟨b, off, spot⟩ := ad
        have hpos : 0 < (Rw.cs (E 0)).length := by rw [Rw.len]; exact Rw.pos
        have hc0 := (hE 0 (by omega)).2.2 0 _ (List.getElem?_eq_getElem hpos)
        have hspot : spot = none := by simpa [Addr.add] using World.cell?_spot hc0
        subst hspot
        have hb : b < w.heap.size := by
          have := hc0
          simp [Addr.add] at this
          exact World.block_lt_of_cell? _ _ this
        refine .inr ⟨b, off, rfl, hb, fun j u hj => ?_⟩
        have hkp : 0 < Rw.k α := Rw.pos
        have ej : j = j / Rw.k α * Rw.k α + j % Rw.k α := by rw [Nat.mul_comm]; exact (Nat.div_add_mod j _).symm
        rw [ej, flat_get _ _ _ (Nat.mod_lt _ hkp)] at hj
        obtain ⟨e, he, hu⟩ := Option.bind_eq_some_iff.1 hj
        have hi : j / Rw.k α < len := by
          have := (List.getElem?_eq_some_iff.1 he).1
          simpa using this
        have he' : E (j / Rw.k α) = e := by simpa [hi] using he
        subst he'
        have := (hE _ hi).2.2 _ _ hu
        rw [addr_add] at this
        rw [ej]
        exact this
    · intro e he
      simp only [List.mem_map, List.mem_range] at he
      obtain ⟨i, hi, rfl⟩ := he
      exact (hE i hi).1
    · rw [hx]
      simp only [List.map_map]
      congr 1
      exact List.map_congr_left fun i hi => (hE i (List.mem_range.1 hi)).2.1

/-- what a piece reads as -/
def tkData {H : Type} (e : Tk) : DataW H := .agg [.lit (.int .u8 e.k), .lit (.int .i64 e.f), .lit (.int .i64 e.t)]
theorem elem_tk {H : Type} {enc : TypeId × Value → H} {w : World} : ∀ fuel cs x, DataW.trod enc Tryz.prog w 0 (fun _ => true) true fuel 39 cs = some x → cs.length = Rw.k Tk → ∃ e : Tk, True ∧ x.1 = tkData e ∧ cs = Rw.cs e := by
  intro fuel cs x h hlen
  obtain ⟨y0, y1, y2, k, hxy, _, g0, g1, g2⟩ := trod_struct3 Tryz.underlying39 h
  match cs, hlen with
  | [v0, v1, v2], _ =>
    simp only [cellsInt, cellsK1] at g0 g1 g2
    obtain ⟨c, e0, rfl, w0⟩ := DataW.trod_int Tryz.underlying37 g0
    obtain ⟨f, e1, rfl, w1⟩ := DataW.trod_int Tryz.underlying3 g1
    obtain ⟨t, e2, rfl, w2⟩ := DataW.trod_int Tryz.underlying3 g2
    simp at e0 e1 e2
    subst e0 e1 e2
    subst hxy
    exact ⟨⟨c, f, t⟩, trivial, rfl, rfl⟩

theorem okSlice {H : Type} {enc : TypeId × Value → H} {w : World} {fuel : Nat} {v : Value} {x : DataW H × List MemPlace} {tS tE : TypeId} (hS : Tryz.prog.underlying tS = some (.slice tE))
    (h : DataW.trod enc Tryz.prog w 0 (fun _ => true) true fuel tS [v] = some x) : ∃ a len cap, v = .slice a len cap := by
  rcases open_slice hS h with ⟨hcs, _⟩ | ⟨ad, l, c, m, n, D, Pl, hcs, _⟩
  · simp at hcs; exact ⟨_, _, _, hcs⟩
  · simp at hcs; exact ⟨_, _, _, hcs⟩

/-- a list of pieces that came in -/
theorem open_tokens {H : Type} {enc : TypeId × Value → H} {w : World} {fuel : Nat} {v : Value} {x : DataW H × List MemPlace} (h : DataW.trod enc Tryz.prog w 0 (fun _ => true) true fuel 22 [v] = some x) :
    ∃ (a : Option Addr) (c : Nat) (ts : List Tk), v = .slice a ts.length c ∧ LiesA w a ts ∧ (a = none → ts.length = 0 ∧ c = 0) ∧ ((x.1 = .nil ∧ ts = []) ∨ ∃ sp, x.1 = .slice (ts.map tkData) sp) ∧ ts.length ≤ c := by
  obtain ⟨a1, len1, c1, rfl⟩ := okSlice Tryz.underlying22 h
  obtain ⟨ts, rfl, p1, p2, p3, p4, p5⟩ := open_rows (fun _ => True) tkData 22 39 ⟨0, 0, 0⟩ Tryz.underlying22 cellsTk elem_tk h
  exact ⟨a1, c1, ts, rfl, p1, p3, p4, p5⟩

theorem open_tokensArg {H : Type} {enc : TypeId × Value → H} {w : World} {r : Reach} {b0 : Nat} {v : Value} {d : DataW H} {p : List MemPlace} (hv : Value.okWide Tryz.prog w r b0 22 v) (h : DataW.Trod enc Tryz.prog w 0 (fun _ => true) true 22 v d p) :
    ∃ (a : Option Addr) (c : Nat) (ts : List Tk), v = .slice a ts.length c ∧ LiesA w a ts ∧ (a = none → ts.length = 0 ∧ c = 0) ∧ ((d = .nil ∧ ts = []) ∨ ∃ sp, d = .slice (ts.map tkData) sp) ∧ ts.length ≤ c := by
  obtain ⟨a0, len0, cap0, rfl⟩ := okWide_slice Tryz.underlying22 hv
  obtain ⟨fuel, hf⟩ := h
  exact open_tokens hf

theorem open_listed {H : Type} {enc : TypeId × Value → H} {w : World} {r : Reach} {b0 : Nat} {v : Value} {d : DataW H} {p : List MemPlace} (hv : Value.okWide Tryz.prog w r b0 26 v) (h : DataW.Trod enc Tryz.prog w 0 (fun _ => true) true 26 v d p) :
    ∃ (s : ByteArray) (a : Option Addr) (c : Nat) (ts : List Tk) (ef et : Int) (es : ByteArray) (d1 : DataW H), v = .agg #[.string s, .slice a ts.length c, .int .i64 ef, .int .i64 et, .string es] ∧ d = .agg [.lit (.string s.data.toList), d1, .agg [.lit (.int .i64 ef), .lit (.int .i64 et), .lit (.string es.data.toList)]] ∧
      LiesA w a ts ∧ (a = none → ts.length = 0 ∧ c = 0) ∧ ((d1 = .nil ∧ ts = []) ∨ ∃ sp, d1 = .slice (ts.map tkData) sp) ∧ (Lit.int .i64 ef).wf = true ∧ (Lit.int .i64 et).wf = true := by
  obtain ⟨cs, rfl, hsz⟩ := okWide_struct Tryz.underlying26 hv
  rw [cellsLs] at hsz
  obtain ⟨l⟩ := cs
  match l, hsz with
  | [v0, v1, v2, v3, v4], _ =>
    obtain ⟨fuel, hf⟩ := h
    have hf : DataW.trod enc Tryz.prog w 0 (fun _ => true) true fuel 26 [v0, v1, v2, v3, v4] = some (d, p) := hf
    obtain ⟨y0, y1, y2, k, hxy, _, g0, g1, g2⟩ := trod_struct3 Tryz.underlying26 hf
    simp only [cellsStr, cellsTks, cellsEd] at g0 g1 g2
    obtain ⟨s, e0, rfl, ws⟩ := DataW.trod_string Tryz.underlying9 g0
    simp at e0
    subst e0
    obtain ⟨a, c, ts, e1, p1, p3, p4, p5⟩ := open_tokens (v := v1) g1
    subst e1
    obtain ⟨z0, z1, z2, k2, hxz, _, f0, f1, f2⟩ := trod_struct3 Tryz.underlying24 g2
    simp only [cellsStr, cellsInt] at f0 f1 f2
    obtain ⟨ef, e2, rfl, w2⟩ := DataW.trod_int Tryz.underlying3 f0
    obtain ⟨et, e3, rfl, w3⟩ := DataW.trod_int Tryz.underlying3 f1
    obtain ⟨es, e4, rfl, w4⟩ := DataW.trod_string Tryz.underlying9 f2
    simp at e2 e3 e4
    subst e2 e3 e4 hxz
    simp only [Prod.mk.injEq] at hxy
    obtain ⟨rfl, -⟩ := hxy
    exact ⟨s, a, c, ts, ef, et, es, y1.1, rfl, rfl, p1, p3, p4, w2, w3⟩

theorem bulk_len {H : Type} (ds : List (DataW H)) : ds.length ≤ Rows.uptoBulkAll ds := by
  induction ds with
  | nil => simp
  | cons d r ih =>
    have : 1 ≤ Rows.uptoBulk d := by
      cases d with
      | lit l => cases l <;> simp [Rows.uptoBulk]
      | _ => simp [Rows.uptoBulk]
    simp only [List.length_cons, Rows.uptoBulkAll]
    omega

theorem bulk_tokens {H : Type} {d1 : DataW H} {xs : List Tk} (h : (d1 = .nil ∧ xs = []) ∨ ∃ sp, d1 = .slice (xs.map tkData) sp) : xs.length ≤ Rows.uptoBulk d1 := by
  rcases h with ⟨_, rfl⟩ | ⟨sp, rfl⟩
  · simp
  · have := bulk_len (H := H) (xs.map tkData); rw [List.length_map] at this; rw [Rows.uptoBulk]; omega
theorem bulk_listed {H : Type} {s es : ByteArray} {ef et : Int} {d1 : DataW H} {xs : List Tk} (h : (d1 = .nil ∧ xs = []) ∨ ∃ sp, d1 = .slice (xs.map tkData) sp) :
    s.size + xs.length + es.size ≤ Rows.uptoBulk (H := H) (.agg [.lit (.string s.data.toList), d1, .agg [.lit (.int .i64 ef), .lit (.int .i64 et), .lit (.string es.data.toList)]]) := by
  have e2 : s.data.toList.length = s.size := by rw [Array.length_toList]; rfl
  have e3 : es.data.toList.length = es.size := by rw [Array.length_toList]; rfl
  have k1 := bulk_tokens h
  simp only [Rows.uptoBulk, Rows.uptoBulkAll, e2, e3]
  omega
end Go.Proofs.YtphejjghgalkpaaGreatDoor
