import Derived.Test.YtifjmdgmnpchbaaDoorSv0
import Derived.SizedLaws
import Derived.JoinedCond
import Derived.Lib.SmallJoins
namespace Go.Proofs.YtifjmdgmnpchbaaDoor
open Go.ChangeShapes Go.WideShapes Go.ChangeAt Go.RowKit Go.Deep
set_option linter.unusedVariables false
set_option linter.unusedSimpArgs false
set_option maxRecDepth 100000

theorem cellsVal : Tryd.prog.cellsOf 28 = 4 := by kernel_rfl
theorem cellsEv : Tryd.prog.cellsOf 23 = 1 := by kernel_rfl
theorem cellsSort : Tryd.prog.cellsOf 26 = 1 := by kernel_rfl
theorem cellsBool : Tryd.prog.cellsOf 4 = 1 := by kernel_rfl
theorem cellsI64 : Tryd.prog.cellsOf 2 = 1 := by kernel_rfl

/-- a list that came in: what lies there, element by element -/
theorem open_rel {α : Type} [Rw α] {H : Type} {enc : TypeId × Value → H} {w : World} {fuel : Nat} {a : Option Addr} {len cap : Nat} {x : DataW H × List MemPlace} (fit : α → Prop) (rel : α → DataW H → Prop) (tS tE : TypeId) (e0 : α)
    (hS : Tryd.prog.underlying tS = some (.slice tE)) (hk : Tryd.prog.cellsOf tE = Rw.k α)
    (elem : ∀ fuel cs x, DataW.trod enc Tryd.prog w 0 (fun _ => true) true fuel tE cs = some x → cs.length = Rw.k α → ∃ e : α, fit e ∧ rel e x.1 ∧ cs = Rw.cs e)
    (h : DataW.trod enc Tryd.prog w 0 (fun _ => true) true fuel tS [.slice a len cap] = some x) :
    ∃ xs : List α, xs.length = len ∧ LiesA w a xs ∧ (∀ e ∈ xs, fit e) ∧ (a = none → len = 0 ∧ cap = 0) ∧
      ((x.1 = .nil ∧ xs = []) ∨ ∃ ds sp, x.1 = .slice ds sp ∧ ds.length = xs.length ∧ ∀ (i : Nat) (e : α) (d : DataW H), xs[i]? = some e → ds[i]? = some d → rel e d) ∧ len ≤ cap := by
  rcases open_slice hS h with ⟨hcs, hx⟩ | ⟨ad, l, c, m, n, D, Pl, hcs, _, hl, hm, hmm, hx, hel⟩
  · simp only [List.cons.injEq, Value.slice.injEq, and_true] at hcs
    obtain ⟨rfl, rfl, rfl⟩ := hcs
    exact ⟨[], rfl, .inl rfl, by simp, fun _ => ⟨rfl, rfl⟩, .inl ⟨by rw [hx], rfl⟩, Nat.le_refl _⟩
  · simp only [List.cons.injEq, Value.slice.injEq, and_true] at hcs
    obtain ⟨rfl, rfl, rfl⟩ := hcs
    simp only [if_true] at hmm
    subst hmm
    have each : ∀ i, i < len → ∃ e : α, fit e ∧ rel e (D i) ∧ ∀ r u, (Rw.cs e)[r]? = some u → w.cell? (ad.add (i * Rw.k α + r)) = some u := by
      intro i hi
      obtain ⟨cs', h1, h2⟩ := hel i (by omega)
      rw [hk] at h1
      obtain ⟨_, hlen, hcell⟩ := World.cells?_some h1
      obtain ⟨e, he1, he2, he3⟩ := elem _ _ _ h2 hlen
      refine ⟨e, he1, he2, fun r u hu => ?_⟩
      have hr : r < Rw.k α := by have := (List.getElem?_eq_some_iff.1 hu).1; rw [Rw.len] at this; exact this
      have := hcell r hr
      rw [add_add, he3, hu] at this
      exact this
    have ne : Nonempty α := ⟨e0⟩
    obtain ⟨E, hE⟩ : ∃ E : Nat → α, ∀ i, i < len → fit (E i) ∧ rel (E i) (D i) ∧ ∀ r u, (Rw.cs (E i))[r]? = some u → w.cell? (ad.add (i * Rw.k α + r)) = some u := by
      have : ∀ i, ∃ e : α, i < len → fit e ∧ rel e (D i) ∧ ∀ r u, (Rw.cs e)[r]? = some u → w.cell? (ad.add (i * Rw.k α + r)) = some u := by
        intro i
        by_cases hi : i < len
        · obtain ⟨e, he⟩ := each i hi
          exact ⟨e, fun _ => he⟩
        · exact ⟨e0, fun h => absurd h hi⟩
      exact ⟨fun i => Classical.choose (this i), fun i => Classical.choose_spec (this i)⟩
    refine ⟨(List.range len).map E, by simp, ?_, ?_, by simp, ?_, hl⟩
    · by_cases h0 : len = 0
      · exact .inl (by simp [h0])
      · obtain ⟨b, off, spot⟩ := ad
        have hpos : 0 < (Rw.cs (E 0)).length := by rw [Rw.len]; exact Rw.pos
        have hc0 := (hE 0 (by omega)).2.2 0 _ (List.getElem?_eq_getElem hpos)
        have hspot : spot = none := by simpa [Addr.add] using World.cell?_spot hc0
        subst hspot
        have hb : b < w.heap.size := by
          have := hc0
          simp [Addr.add] at this
          exact World.block_lt_of_cell? _ _ this
        refine .inr ⟨b, off, rfl, hb, fun j u hj => ?_⟩
        have hkp : 0 < Rw.k α := Rw.pos
        have ej : j = j / Rw.k α * Rw.k α + j % Rw.k α := by rw [Nat.mul_comm]; exact (Nat.div_add_mod j _).symm
        rw [ej, flat_get _ _ _ (Nat.mod_lt _ hkp)] at hj
        obtain ⟨e, he, hu⟩ := Option.bind_eq_some_iff.1 hj
        have hi : j / Rw.k α < len := by
          have := (List.getElem?_eq_some_iff.1 he).1
          simpa using this
        have he' : E (j / Rw.k α) = e := by simpa [hi] using he
        subst he'
        have := (hE _ hi).2.2 _ _ hu
        rw [addr_add] at this
        rw [ej]
        exact this
    · intro e he
      simp only [List.mem_map, List.mem_range] at he
      obtain ⟨i, hi, rfl⟩ := he
      exact (hE i hi).1
    · refine .inr ⟨(List.range len).map D, (List.range (m - len)).map fun j => D (len + j), by rw [hx], by simp, fun i e d he hd => ?_⟩
      have hi : i < len := by have := (List.getElem?_eq_some_iff.1 he).1; simpa using this
      have he' : E i = e := by simpa [hi] using he
      have hd' : D i = d := by simpa [hi] using hd
      rw [← he', ← hd']
      exact (hE i hi).2.1

def valData {H : Type} (x : Vl) : DataW H := .agg [.lit (.int .u8 x.k), .lit (.bool x.b), .lit (.int .i64 x.i), .lit (.string x.s.data.toList)]
def VlIn (x : Vl) : Prop := -9223372036854775808 ≤ x.i ∧ x.i ≤ 9223372036854775807
theorem elem_val {H : Type} {enc : TypeId × Value → H} {w : World} : ∀ fuel cs x, DataW.trod enc Tryd.prog w 0 (fun _ => true) true fuel 28 cs = some x → cs.length = Rw.k Vl → ∃ e : Vl, VlIn e ∧ x.1 = valData e ∧ cs = Rw.cs e := by
  intro fuel cs x h hlen
  obtain ⟨y0, y1, y2, y3, k, hxy, _, g0, g1, g2, g3⟩ := Joins.trod_struct4 Tryd.underlying28 h
  match cs, hlen with
  | [v0, v1, v2, v3], _ =>
    simp only [cellsStr, cellsSort, cellsBool, cellsI64] at g0 g1 g2 g3
    obtain ⟨c, e0, rfl, w0⟩ := DataW.trod_int Tryd.underlying26 g0
    obtain ⟨f, e1, rfl⟩ := DataW.trod_bool Tryd.underlying4 g1
    obtain ⟨t, e2, rfl, w2⟩ := DataW.trod_int Tryd.underlying2 g2
    obtain ⟨z, e3, rfl, w3⟩ := DataW.trod_string Tryd.underlying9 g3
    simp at e0 e1 e2 e3
    subst e0 e1 e2 e3
    subst hxy
    exact ⟨⟨c, f, t, z⟩, bounds_i64 w2, rfl, rfl⟩
/-- an event that came in -/
def EvIn (w : World) (r : Rg) : Prop := LiesA w r.a r.xs ∧ (∀ x ∈ r.xs, VlIn x) ∧ (r.a = none → r.xs.length = 0 ∧ r.c = 0)
def evRel {H : Type} (r : Rg) (d : DataW H) : Prop := (d = .nil ∧ r.xs = []) ∨ ∃ ds sp, d = .slice ds sp ∧ ds.length = r.xs.length ∧ ∀ (i : Nat) (e : Vl) (d : DataW H), r.xs[i]? = some e → ds[i]? = some d → d = valData e
theorem elem_ev {H : Type} {enc : TypeId × Value → H} {w : World} : ∀ fuel cs x, DataW.trod enc Tryd.prog w 0 (fun _ => true) true fuel 23 cs = some x → cs.length = Rw.k Rg → ∃ e : Rg, EvIn w e ∧ evRel e x.1 ∧ cs = Rw.cs e := by
  intro fuel cs x h hlen
  match cs, hlen with
  | [v], _ =>
    have hsl : ∃ a len cap, v = .slice a len cap := by
      rcases open_slice Tryd.underlying23 h with ⟨hcs, _⟩ | ⟨ad, l, c, m, n, D, Pl, hcs, _⟩
      · simp only [List.cons.injEq, and_true] at hcs; exact ⟨_, _, _, hcs⟩
      · simp only [List.cons.injEq, and_true] at hcs; exact ⟨_, _, _, hcs⟩
    obtain ⟨a, len, cap, rfl⟩ := hsl
    obtain ⟨xs, hl, hL, hf, hn, hd, _⟩ := open_rel VlIn (fun e d => d = valData e) 23 28 ⟨0, false, 0, ⟨#[]⟩⟩ Tryd.underlying23 cellsVal elem_val h
    subst hl
    exact ⟨⟨a, cap, xs⟩, ⟨hL, hf, hn⟩, hd, rfl⟩
theorem small_of {H : Type} {ds : List (DataW H)} (hk : Rows.uptoSmall H ds = true) : Rows.uptoBulkAll ds ≤ 1048576 := of_decide_eq_true hk
theorem bulk_val {H : Type} (x : Vl) : wgV x ≤ Rows.uptoBulk (valData (H := H) x) := by
  have e2 : x.s.data.toList.length = x.s.size := by rw [Array.length_toList]; rfl
  simp only [valData, Rows.uptoBulk, Rows.uptoBulkAll, wgV, e2]
  omega
theorem bulk_vals {H : Type} : ∀ (xs : List Vl) (ds : List (DataW H)), ds.length = xs.length → (∀ (i : Nat) (e : Vl) (d : DataW H), xs[i]? = some e → ds[i]? = some d → d = valData e) → wgE xs ≤ Rows.uptoBulkAll ds
  | [], _, _, _ => by simp [wgE]
  | x :: r, [], h, _ => by simp at h
  | x :: r, d :: t, h, hr => by
    have h1 := bulk_vals r t (by simpa using h) (fun i e d he hd => hr (i + 1) e d (by simpa using he) (by simpa using hd))
    have h2 := hr 0 x d rfl rfl
    subst h2
    have h3 := bulk_val (H := H) x
    simp only [wgE, Rows.uptoBulkAll]
    omega
theorem bulk_ev {H : Type} {r : Rg} {d : DataW H} (h : evRel r d) : 1 + wgE r.xs ≤ Rows.uptoBulk d := by
  rcases h with ⟨rfl, h0⟩ | ⟨ds, sp, rfl, hl, hr⟩
  · rw [h0]; simp [wgE, Rows.uptoBulk]
  · have := bulk_vals r.xs ds hl hr
    simp only [Rows.uptoBulk]; omega
theorem bulk_evs {H : Type} : ∀ (rs : List Rg) (ds : List (DataW H)), ds.length = rs.length → (∀ (i : Nat) (e : Rg) (d : DataW H), rs[i]? = some e → ds[i]? = some d → evRel e d) → wgT (rs.map Rg.xs) ≤ Rows.uptoBulkAll ds
  | [], _, _, _ => by simp [wgT]
  | x :: r, [], h, _ => by simp at h
  | x :: r, d :: t, h, hr => by
    have h1 := bulk_evs r t (by simpa using h) (fun i e d he hd => hr (i + 1) e d (by simpa using he) (by simpa using hd))
    have h3 := bulk_ev (hr 0 x d rfl rfl)
    simp only [wgT, List.map_cons, Rows.uptoBulkAll]
    omega
theorem bulk_trace {H : Type} {rs : List Rg} {d : DataW H} (h : (d = .nil ∧ rs = []) ∨ ∃ ds sp, d = .slice ds sp ∧ ds.length = rs.length ∧ ∀ (i : Nat) (e : Rg) (d : DataW H), rs[i]? = some e → ds[i]? = some d → evRel e d) : wgT (rs.map Rg.xs) ≤ Rows.uptoBulk d := by
  rcases h with ⟨_, rfl⟩ | ⟨ds, sp, rfl, hl, hr⟩
  · simp [wgT]
  · have := bulk_evs rs ds hl hr
    simp only [Rows.uptoBulk]; omega
theorem wg_text : ∀ (xs : List Vl) (x : Vl), x ∈ xs → x.s.size ≤ wgE xs
  | [], x, h => by cases h
  | z :: t, x, h => by
    rcases List.mem_cons.1 h with rfl | h
    · simp only [wgE, wgV]; omega
    · have := wg_text t x h; simp only [wgE]; omega
end Go.Proofs.YtifjmdgmnpchbaaDoor
