import Derived.Test.YtcanabbjliloeaaDoorRec
import Derived.SizedLaws
import Derived.JoinedCond
import Derived.Lib.SmallJoins
namespace Go.Proofs.YtcanabbjliloeaaDoor
open Go.ChangeShapes Go.WideShapes Go.ChangeAt Go.RowKit Go.Deep
set_option linter.unusedVariables false
set_option maxRecDepth 100000

theorem own : ownKnob Tryd.prog.godebug = none := by kernel_rfl
theorem laidOut : laidOutB Tryd.prog = true := by kernel_rfl
theorem cellsTk : Tryd.prog.cellsOf 34 = 3 := by kernel_rfl
theorem cellsNd : Tryd.prog.cellsOf 37 = 4 := by kernel_rfl
theorem cellsInt : Tryd.prog.cellsOf 3 = 1 := by kernel_rfl
theorem cellsStr : Tryd.prog.cellsOf 9 = 1 := by kernel_rfl
theorem cellsK1 : Tryd.prog.cellsOf 32 = 1 := by kernel_rfl
theorem cellsK2 : Tryd.prog.cellsOf 35 = 1 := by kernel_rfl
theorem cellsTks : Tryd.prog.cellsOf 22 = 1 := by kernel_rfl
theorem cellsNds : Tryd.prog.cellsOf 23 = 1 := by kernel_rfl
theorem cellsTree : Tryd.prog.cellsOf 25 = 1 := by kernel_rfl
theorem bytesTk : Tryd.prog.bytesOf 34 = 24 := by kernel_rfl
theorem bytesNd : Tryd.prog.bytesOf 37 = 32 := by kernel_rfl

/-- a list that came in: what lies there, element by element -/
theorem open_rows {α : Type} [Rw α] {H : Type} {enc : TypeId × Value → H} {w : World} {fuel : Nat} {a : Option Addr} {len cap : Nat} {x : DataW H × List MemPlace} (fit : α → Prop) (dat : α → DataW H) (tS tE : TypeId) (e0 : α)
    (hS : Tryd.prog.underlying tS = some (.slice tE)) (hk : Tryd.prog.cellsOf tE = Rw.k α)
    (elem : ∀ fuel cs x, DataW.trod enc Tryd.prog w 0 (fun _ => true) true fuel tE cs = some x → cs.length = Rw.k α → ∃ e : α, fit e ∧ x.1 = dat e ∧ cs = Rw.cs e)
    (h : DataW.trod enc Tryd.prog w 0 (fun _ => true) true fuel tS [.slice a len cap] = some x) :
    ∃ xs : List α, xs.length = len ∧ LiesA w a xs ∧ (∀ e ∈ xs, fit e) ∧ (a = none → len = 0 ∧ cap = 0) ∧
      ((x.1 = .nil ∧ xs = []) ∨ ∃ sp, x.1 = .slice (xs.map dat) sp) ∧ len ≤ cap := by
  rcases open_slice hS h with ⟨hcs, hx⟩ | ⟨ad, l, c, m, n, D, Pl, hcs, _, hl, hm, hmm, hx, hel⟩
  · simp only [List.cons.injEq, Value.slice.injEq, and_true] at hcs
    obtain ⟨rfl, rfl, rfl⟩ := hcs
    exact ⟨[], rfl, .inl rfl, by simp, fun _ => ⟨rfl, rfl⟩, .inl ⟨by rw [hx], rfl⟩, Nat.le_refl _⟩
  · simp only [List.cons.injEq, Value.slice.injEq, and_true] at hcs
    obtain ⟨rfl, rfl, rfl⟩ := hcs
    simp only [if_true] at hmm
    subst hmm
    have each : ∀ i, i < len → ∃ e : α, fit e ∧ D i = dat e ∧ ∀ r u, (Rw.cs e)[r]? = some u → w.cell? (ad.add (i * Rw.k α + r)) = some u := by
      intro i hi
      obtain ⟨cs', h1, h2⟩ := hel i (by omega)
      rw [hk] at h1
      obtain ⟨_, hlen, hcell⟩ := World.cells?_some h1
      obtain ⟨e, he1, he2, he3⟩ := elem _ _ _ h2 hlen
      refine ⟨e, he1, he2, fun r u hu => ?_⟩
      have hr : r < Rw.k α := by have := (List.getElem?_eq_some_iff.1 hu).1; rw [Rw.len] at this; exact this
      have := hcell r hr
      rw [add_add, he3, hu] at this
      exact this
    have ne : Nonempty α := ⟨e0⟩
    obtain ⟨E, hE⟩ : ∃ E : Nat → α, ∀ i, i < len → fit (E i) ∧ D i = dat (E i) ∧ ∀ r u, (Rw.cs (E i))[r]? = some u → w.cell? (ad.add (i * Rw.k α + r)) = some u := by
      have : ∀ i, ∃ e : α, i < len → fit e ∧ D i = dat e ∧ ∀ r u, (Rw.cs e)[r]? = some u → w.cell? (ad.add (i * Rw.k α + r)) = some u := by
        intro i
        by_cases hi : i < len
        · obtain ⟨e, he⟩ := each i hi
          exact ⟨e, fun _ => he⟩
        · exact ⟨e0, fun h => absurd h hi⟩
      exact ⟨fun i => Classical.choose (this i), fun i => Classical.choose_spec (this i)⟩
    refine ⟨(List.range len).map E, by simp, ?_, ?_, by simp, .inr ⟨(List.range (m - len)).map fun j => D (len + j), ?_⟩, hl⟩
    · by_cases h0 : len = 0
      · exact .inl (by simp [h0])
      · obtain ⟨b, off, spot⟩ := ad
        have hpos : 0 < (Rw.cs (E 0)).length := by rw [Rw.len]; exact Rw.pos
        have hc0 := (hE 0 (by omega)).2.2 0 _ (List.getElem?_eq_getElem hpos)
        have hspot : spot = none := by simpa [Addr.add] using World.cell?_spot hc0
        subst hspot
        have hb : b < w.heap.size := by
          have := hc0
          simp [Addr.add] at this
          exact World.block_lt_of_cell? _ _ this
        refine .inr ⟨b, off, rfl, hb, fun j u hj => ?_⟩
        have hkp : 0 < Rw.k α := Rw.pos
        have ej : j = j / Rw.k α * Rw.k α + j % Rw.k α := by rw [Nat.mul_comm]; exact (Nat.div_add_mod j _).symm
        rw [ej, flat_get _ _ _ (Nat.mod_lt _ hkp)] at hj
        obtain ⟨e, he, hu⟩ := Option.bind_eq_some_iff.1 hj
        have hi : j / Rw.k α < len := by
          have := (List.getElem?_eq_some_iff.1 he).1
          simpa using this
        have he' : E (j / Rw.k α) = e := by simpa [hi] using he
        subst he'
        have := (hE _ hi).2.2 _ _ hu
        rw [addr_add] at this
        rw [ej]
        exact this
    · intro e he
      simp only [List.mem_map, List.mem_range] at he
      obtain ⟨i, hi, rfl⟩ := he
      exact (hE i hi).1
    · rw [hx]
      simp only [List.map_map]
      congr 1
      exact List.map_congr_left fun i hi => (hE i (List.mem_range.1 hi)).2.1

/-- what a piece, a node reads as -/
def tkData {H : Type} (e : Tk) : DataW H := .agg [.lit (.int .u8 e.k), .lit (.int .i64 e.f), .lit (.int .i64 e.t)]
def ndData {H : Type} (e : Nd) : DataW H := .agg [.lit (.int .u8 e.k), .lit (.int .i64 e.f), .lit (.int .i64 e.e), .lit (.int .i64 e.s)]

theorem elem_tk {H : Type} {enc : TypeId × Value → H} {w : World} : ∀ fuel cs x, DataW.trod enc Tryd.prog w 0 (fun _ => true) true fuel 34 cs = some x → cs.length = Rw.k Tk → ∃ e : Tk, TkFit e ∧ x.1 = tkData e ∧ cs = Rw.cs e := by
  intro fuel cs x h hlen
  obtain ⟨y0, y1, y2, k, hxy, _, g0, g1, g2⟩ := trod_struct3 Tryd.underlying34 h
  match cs, hlen with
  | [v0, v1, v2], _ =>
    simp only [cellsInt, cellsK1] at g0 g1 g2
    obtain ⟨c, e0, rfl, w0⟩ := DataW.trod_int Tryd.underlying32 g0
    obtain ⟨f, e1, rfl, w1⟩ := DataW.trod_int Tryd.underlying3 g1
    obtain ⟨t, e2, rfl, w2⟩ := DataW.trod_int Tryd.underlying3 g2
    simp at e0 e1 e2
    subst e0 e1 e2
    subst hxy
    exact ⟨⟨c, f, t⟩, ⟨bounds_u8 w0, bounds_i64 w1, bounds_i64 w2⟩, rfl, rfl⟩

theorem elem_nd {H : Type} {enc : TypeId × Value → H} {w : World} : ∀ fuel cs x, DataW.trod enc Tryd.prog w 0 (fun _ => true) true fuel 37 cs = some x → cs.length = Rw.k Nd → ∃ e : Nd, NdFit e ∧ x.1 = ndData e ∧ cs = Rw.cs e := by
  intro fuel cs x h hlen
  obtain ⟨y0, y1, y2, y3, k, hxy, _, g0, g1, g2, g3⟩ := Joins.trod_struct4 Tryd.underlying37 h
  match cs, hlen with
  | [v0, v1, v2, v3], _ =>
    simp only [cellsInt, cellsK2] at g0 g1 g2 g3
    obtain ⟨c, e0, rfl, w0⟩ := DataW.trod_int Tryd.underlying35 g0
    obtain ⟨f, e1, rfl, w1⟩ := DataW.trod_int Tryd.underlying3 g1
    obtain ⟨t, e2, rfl, w2⟩ := DataW.trod_int Tryd.underlying3 g2
    obtain ⟨z, e3, rfl, w3⟩ := DataW.trod_int Tryd.underlying3 g3
    simp at e0 e1 e2 e3
    subst e0 e1 e2 e3
    subst hxy
    exact ⟨⟨c, f, t, z⟩, ⟨bounds_u8 w0, bounds_i64 w1, bounds_i64 w2, bounds_i64 w3⟩, rfl, rfl⟩

/-- a tree that came in, in its one cell -/
theorem open_tree {H : Type} {enc : TypeId × Value → H} {w : World} {fuel : Nat} {v : Value} {x : DataW H × List MemPlace}
    (h : DataW.trod enc Tryd.prog w 0 (fun _ => true) true fuel 25 [v] = some x) :
    ∃ (a : Option Addr) (cap : Nat) (ns : List Nd) (d : DataW H), v = .slice a ns.length cap ∧ LiesA w a ns ∧ (∀ e ∈ ns, NdFit e) ∧ (a = none → ns.length = 0 ∧ cap = 0) ∧ x.1 = .agg [d] ∧
      ((d = .nil ∧ ns = []) ∨ ∃ sp, d = .slice (ns.map ndData) sp) := by
  obtain ⟨y0, k, hxy, _, g0⟩ := trod_struct1 Tryd.underlying25 h
  simp only [cellsNds, List.drop_zero, List.take_succ_cons, List.take_zero] at g0
  have hsl : ∃ a len cap, v = .slice a len cap := by
    rcases open_slice Tryd.underlying23 g0 with ⟨hcs, _⟩ | ⟨ad, l, c, m, n, D, Pl, hcs, _⟩
    · simp at hcs; exact ⟨_, _, _, hcs⟩
    · simp at hcs; exact ⟨_, _, _, hcs⟩
  obtain ⟨a, len, cap, rfl⟩ := hsl
  obtain ⟨ns, rfl, q1, q2, q3, q4, q5⟩ := open_rows NdFit ndData 23 37 ⟨0, 0, 0, 0⟩ Tryd.underlying23 cellsNd elem_nd g0
  subst hxy
  exact ⟨a, cap, ns, y0.1, rfl, q1, q2, q3, rfl, q4⟩

theorem okSlice {H : Type} {enc : TypeId × Value → H} {w : World} {fuel : Nat} {v : Value} {x : DataW H × List MemPlace} {tS tE : TypeId} (hS : Tryd.prog.underlying tS = some (.slice tE))
    (h : DataW.trod enc Tryd.prog w 0 (fun _ => true) true fuel tS [v] = some x) : ∃ a len cap, v = .slice a len cap := by
  rcases open_slice hS h with ⟨hcs, _⟩ | ⟨ad, l, c, m, n, D, Pl, hcs, _⟩
  · simp at hcs; exact ⟨_, _, _, hcs⟩
  · simp at hcs; exact ⟨_, _, _, hcs⟩

/-- what is known of a forest that came in -/
structure FIn {H : Type} (w : World) (s : ByteArray) (a1 a2 : Option Addr) (c1 c2 : Nat) (ts : List Tk) (ns : List Nd) (d1 d2 : DataW H) : Prop where
  l1 : LiesA w a1 ts
  l2 : LiesA w a2 ns
  f1 : ∀ e ∈ ts, TkFit e
  f2 : ∀ e ∈ ns, NdFit e
  n1 : a1 = none → ts.length = 0 ∧ c1 = 0
  n2 : a2 = none → ns.length = 0 ∧ c2 = 0
  r1 : (d1 = .nil ∧ ts = []) ∨ ∃ sp, d1 = .slice (ts.map tkData) sp
  r2 : (d2 = .nil ∧ ns = []) ∨ ∃ sp, d2 = .slice (ns.map ndData) sp
  k1 : ts.length ≤ c1

theorem open_forest {H : Type} {enc : TypeId × Value → H} {w : World} {r : Reach} {b0 : Nat} {v : Value} {d : DataW H} {p : List MemPlace} (hv : Value.okWide Tryd.prog w r b0 27 v) (h : DataW.Trod enc Tryd.prog w 0 (fun _ => true) true 27 v d p) :
    ∃ (s : ByteArray) (a1 a2 : Option Addr) (c1 c2 : Nat) (ts : List Tk) (ns : List Nd) (d1 d2 : DataW H), v = .agg #[.string s, .slice a1 ts.length c1, .slice a2 ns.length c2] ∧ d = .agg [.lit (.string s.data.toList), d1, .agg [d2]] ∧ FIn w s a1 a2 c1 c2 ts ns d1 d2 := by
  obtain ⟨v0, v1, v2, y0, y1, y2, n, rfl, rfl, _, g0, g1, g2⟩ := Joins.open_agg3 Tryd.underlying27 (by kernel_rfl) (by kernel_rfl) hv h
  obtain ⟨s, e0, rfl, ws⟩ := DataW.trod_string Tryd.underlying9 g0
  simp at e0
  subst e0
  obtain ⟨a1, len1, c1, rfl⟩ := okSlice Tryd.underlying22 g1
  obtain ⟨ts, rfl, p1, p2, p3, p4, p5⟩ := open_rows TkFit tkData 22 34 ⟨0, 0, 0⟩ Tryd.underlying22 cellsTk elem_tk g1
  obtain ⟨a2, c2, ns, d2, rfl, q1, q2, q3, q4, q5⟩ := open_tree g2
  exact ⟨s, a1, a2, c1, c2, ts, ns, y1.1, d2, rfl, by rw [q4], p1, q1, p2, q2, p3, q3, p4, q5, p5⟩

theorem FIn.sizes {H : Type} {w : World} {s : ByteArray} {a1 a2 : Option Addr} {c1 c2 : Nat} {xs : List Tk} {ns : List Nd} {d1 d2 : DataW H} (h : FIn w s a1 a2 c1 c2 xs ns d1 d2) {ts : List TypeId} {ds : List (DataW H)}
    (hsz : (DataW.weightsEach Tryd.prog ts ds).all (· ≤ reachBytes) = true) {j : Nat} (ht : ts[j]? = some 27) (hd : ds[j]? = some (.agg [.lit (.string s.data.toList), d1, .agg [d2]])) :
    s.size ≤ 140737488351232 ∧ xs.length * 24 ≤ 140737488351232 ∧ ns.length * 32 ≤ 140737488351232 := by
  have key : ∀ n ∈ DataW.weights (H := H) Tryd.prog 27 (.agg [.lit (.string s.data.toList), d1, .agg [d2]]), n ≤ 140737488351232 := fun n hn => of_decide_eq_true (List.all_eq_true.1 hsz _ (DataW.weights_mem_each ht hd n hn))
  rw [DataW.weights, Tryd.underlying27] at key
  simp only [DataW.weightsEach, List.map_cons, List.map_nil, List.mem_append, DataW.weights, Tryd.underlying25] at key
  refine ⟨?_, ?_, ?_⟩
  · have := key s.data.toList.length (by simp)
    have e2 : s.data.toList.length = s.size := by rw [Array.length_toList]; rfl
    omega
  · rcases h.r1 with ⟨_, rfl⟩ | ⟨sp, rfl⟩
    · simp
    · have := key ((xs.length + sp.length) * 24) (.inr (.inl (by rw [DataW.weights, Tryd.underlying22]; simp [bytesTk])))
      omega
  · rcases h.r2 with ⟨_, rfl⟩ | ⟨sp, rfl⟩
    · simp
    · have := key ((ns.length + sp.length) * 32) (.inr (.inr (.inl (.inl (by rw [DataW.weights, Tryd.underlying23]; simp [bytesNd])))))
      omega

/-- a tree that came in by itself -/
theorem open_treeArg {H : Type} {enc : TypeId × Value → H} {w : World} {r : Reach} {b0 : Nat} {v : Value} {d : DataW H} {p : List MemPlace} (hv : Value.okWide Tryd.prog w r b0 25 v) (h : DataW.Trod enc Tryd.prog w 0 (fun _ => true) true 25 v d p) :
    ∃ (a : Option Addr) (c : Nat) (ns : List Nd) (d1 : DataW H), v = .agg #[.slice a ns.length c] ∧ d = .agg [d1] ∧ LiesA w a ns ∧ (∀ e ∈ ns, NdFit e) ∧ (a = none → ns.length = 0 ∧ c = 0) ∧ ((d1 = .nil ∧ ns = []) ∨ ∃ sp, d1 = .slice (ns.map ndData) sp) := by
  obtain ⟨cs, rfl, hsz⟩ := okWide_struct Tryd.underlying25 hv
  rw [cellsTree] at hsz
  obtain ⟨l⟩ := cs
  match l, hsz with
  | [v0], _ =>
    obtain ⟨fuel, hf⟩ := h
    obtain ⟨a, c, ns, d1, rfl, q1, q2, q3, q4, q5⟩ := open_tree hf
    exact ⟨a, c, ns, d1, rfl, q4, q1, q2, q3, q5⟩

theorem tree_size {H : Type} {ns : List Nd} {d1 : DataW H} (h : (d1 = .nil ∧ ns = []) ∨ ∃ sp, d1 = .slice (ns.map ndData) sp) {ts : List TypeId} {ds : List (DataW H)}
    (hsz : (DataW.weightsEach Tryd.prog ts ds).all (· ≤ reachBytes) = true) {j : Nat} (ht : ts[j]? = some 25) (hd : ds[j]? = some (.agg [d1])) : ns.length * 32 ≤ 140737488351232 := by
  have key : ∀ n ∈ DataW.weights (H := H) Tryd.prog 25 (.agg [d1]), n ≤ 140737488351232 := fun n hn => of_decide_eq_true (List.all_eq_true.1 hsz _ (DataW.weights_mem_each ht hd n hn))
  rw [DataW.weights, Tryd.underlying25] at key
  simp only [DataW.weightsEach, List.map_cons, List.map_nil, List.mem_append] at key
  rcases h with ⟨_, rfl⟩ | ⟨sp, rfl⟩
  · simp
  · have := key ((ns.length + sp.length) * 32) (.inl (by rw [DataW.weights, Tryd.underlying23]; simp [bytesNd]))
    omega

theorem small_of {H : Type} {ds : List (DataW H)} (hk : Rows.uptoSmall H ds = true) : Rows.uptoBulkAll ds ≤ 1048576 := of_decide_eq_true hk

theorem bulk_len {H : Type} (ds : List (DataW H)) : ds.length ≤ Rows.uptoBulkAll ds := by
  induction ds with
  | nil => simp
  | cons d r ih =>
    have : 1 ≤ Rows.uptoBulk d := by
      cases d with
      | lit l => cases l <;> simp [Rows.uptoBulk]
      | _ => simp [Rows.uptoBulk]
    simp only [List.length_cons, Rows.uptoBulkAll]
    omega

theorem bulk_forest {H : Type} {w : World} {s : ByteArray} {a1 a2 : Option Addr} {c1 c2 : Nat} {xs : List Tk} {ns : List Nd} {d1 d2 : DataW H} (h : FIn w s a1 a2 c1 c2 xs ns d1 d2) :
    s.size + xs.length + ns.length ≤ Rows.uptoBulk (H := H) (.agg [.lit (.string s.data.toList), d1, .agg [d2]]) := by
  have e2 : s.data.toList.length = s.size := by rw [Array.length_toList]; rfl
  have k1 : xs.length ≤ Rows.uptoBulk d1 := by
    rcases h.r1 with ⟨_, rfl⟩ | ⟨sp, rfl⟩
    · simp
    · have := bulk_len (H := H) (xs.map tkData); rw [List.length_map] at this; rw [Rows.uptoBulk]; omega
  have k2 : ns.length ≤ Rows.uptoBulk d2 := by
    rcases h.r2 with ⟨_, rfl⟩ | ⟨sp, rfl⟩
    · simp
    · have := bulk_len (H := H) (ns.map ndData); rw [List.length_map] at this; rw [Rows.uptoBulk]; omega
  simp only [Rows.uptoBulk, Rows.uptoBulkAll, e2]
  omega
end Go.Proofs.YtcanabbjliloeaaDoor
