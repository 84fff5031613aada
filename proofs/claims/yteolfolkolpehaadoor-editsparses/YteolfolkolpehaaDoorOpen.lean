import Derived.Test.YteolfolkolpehaaDoorBase
import Derived.SizedLaws
import Derived.JoinedCond
namespace Go.Proofs.YteolfolkolpehaaDoor
open Go.ChangeShapes Go.WideShapes Go.ChangeAt Go.RowKit Go.Deep
set_option linter.unusedVariables false

theorem own : ownKnob Tryd.prog.godebug = none := by kernel_rfl
theorem laidOut : laidOutB Tryd.prog = true := by kernel_rfl
theorem cellsEd : Tryd.prog.cellsOf 45 = 3 := by kernel_rfl
theorem cellsInt : Tryd.prog.cellsOf 3 = 1 := by kernel_rfl
theorem cellsStr : Tryd.prog.cellsOf 9 = 1 := by kernel_rfl
theorem bytesEd : Tryd.prog.bytesOf 45 = 32 := by kernel_rfl

/-- what an edit reads as -/
def edData {H : Type} (e : Ed) : DataW H := .agg [.lit (.int .i64 e.f), .lit (.int .i64 e.t), .lit (.string e.s.data.toList)]

def EdFit0 (e : Ed) : Prop := -9223372036854775808 ≤ e.f ∧ e.f ≤ 9223372036854775807 ∧ -9223372036854775808 ≤ e.t ∧ e.t ≤ 9223372036854775807 ∧ e.s.size ≤ maxLen

theorem weight_mem {H : Type} {xs : List Ed} {e : Ed} (he : e ∈ xs) : e.s.data.toList.length ∈ DataW.weightsAll (H := H) Tryd.prog 45 (xs.map edData) := by
  induction xs with
  | nil => cases he
  | cons x r ih =>
    rw [List.map_cons, DataW.weightsAll, List.mem_append]
    rcases List.mem_cons.1 he with rfl | he
    · left
      unfold edData
      rw [DataW.weights, Tryd.underlying45]
      simp [DataW.weightsEach, DataW.weights]
    · exact .inr (ih he)

theorem fit_of {H : Type} {ts : List TypeId} {ds : List (DataW H)} (hsz : (DataW.weightsEach Tryd.prog ts ds).all (· ≤ reachBytes) = true) {j : Nat} {xs : List Ed} {d : DataW H} (ht : ts[j]? = some 22) (hd : ds[j]? = some d)
    (hD : (d = .nil ∧ xs = []) ∨ ∃ sp, d = .slice (xs.map edData) sp) (hF : ∀ e ∈ xs, EdFit0 e) : ∀ e ∈ xs, EdFit e := by
  intro e he
  obtain ⟨h1, h2, h3, h4, _⟩ := hF e he
  refine ⟨h1, h2, h3, h4, ?_⟩
  rcases hD with ⟨_, rfl⟩ | ⟨sp, rfl⟩
  · cases he
  · have := List.all_eq_true.1 hsz _ (DataW.weights_mem_each ht hd e.s.data.toList.length (by
      rw [DataW.weights, Tryd.underlying22]
      simp only [List.mem_cons, List.mem_append]
      exact .inr (.inl (weight_mem he))))
    have e2 : e.s.data.toList.length = e.s.size := by rw [Array.length_toList]; rfl
    rw [e2] at this
    exact of_decide_eq_true this

def tot : List Ed → Nat
  | [] => 0
  | e :: r => e.s.size + tot r

theorem small_of {H : Type} {ds : List (DataW H)} (hk : Rows.uptoSmall H ds = true) : Rows.uptoBulkAll ds ≤ 1048576 := of_decide_eq_true hk

theorem bulk_all {H : Type} (xs : List Ed) : Rows.uptoBulkAll (H := H) (xs.map edData) = xs.length * 4 + tot xs := by
  induction xs with
  | nil => rfl
  | cons e r ih =>
    have e2 : e.s.data.toList.length = e.s.size := by rw [Array.length_toList]; rfl
    rw [List.map_cons, Rows.uptoBulkAll, ih]
    unfold edData
    simp only [Rows.uptoBulk, Rows.uptoBulkAll, tot, List.length_cons, e2]
    omega

theorem bulk_edits {H : Type} {d : DataW H} {xs : List Ed} (hD : (d = .nil ∧ xs = []) ∨ ∃ sp, d = .slice (xs.map edData) sp) : 4 * xs.length + tot xs ≤ Rows.uptoBulk d := by
  rcases hD with ⟨_, rfl⟩ | ⟨sp, rfl⟩
  · simp [tot]
  · rw [Rows.uptoBulk, bulk_all]; omega

theorem bulk_string {H : Type} (s : ByteArray) : s.size ≤ Rows.uptoBulk (H := H) (.lit (.string s.data.toList)) := by
  have e2 : s.data.toList.length = s.size := by rw [Array.length_toList]; rfl
  rw [Rows.uptoBulk, e2]; omega

set_option maxRecDepth 100000 in
/-- A list of edits that came in: its edits, where they lie, what they fit in, what they read as. -/
theorem open_edits {H : Type} {enc : TypeId × Value → H} {w : World} {fuel : Nat} {a : Option Addr} {len cap : Nat} {x : DataW H × List MemPlace}
    (h : DataW.trod enc Tryd.prog w 0 (fun _ => true) true fuel 22 [.slice a len cap] = some x) :
    ∃ xs : List Ed, xs.length = len ∧ EdsA w a xs ∧ (∀ e ∈ xs, EdFit0 e) ∧ (a = none → len = 0 ∧ cap = 0) ∧
      ((x.1 = .nil ∧ xs = []) ∨ ∃ sp, x.1 = .slice (xs.map edData) sp) ∧ len ≤ cap := by
  rcases open_slice Tryd.underlying22 h with ⟨hcs, hx⟩ | ⟨ad, l, c, m, n, D, Pl, hcs, _, hl, hm, hmm, hx, hel⟩
  · simp only [List.cons.injEq, Value.slice.injEq, and_true] at hcs
    obtain ⟨rfl, rfl, rfl⟩ := hcs
    exact ⟨[], rfl, .inl rfl, by simp, fun _ => ⟨rfl, rfl⟩, .inl ⟨by rw [hx], rfl⟩, Nat.le_refl _⟩
  · simp only [List.cons.injEq, Value.slice.injEq, and_true] at hcs
    obtain ⟨rfl, rfl, rfl⟩ := hcs
    simp only [if_true] at hmm
    subst hmm
    have each : ∀ i, i < len → ∃ e : Ed, EdFit0 e ∧ D i = edData e ∧ w.cell? (ad.add (i * 3)) = some (.int .i64 e.f) ∧ w.cell? (ad.add (i * 3 + 1)) = some (.int .i64 e.t) ∧ w.cell? (ad.add (i * 3 + 2)) = some (.string e.s) := by
      intro i hi
      obtain ⟨cs', h1, h2⟩ := hel i (by omega)
      rw [cellsEd] at h1
      obtain ⟨_, hlen, hcell⟩ := World.cells?_some h1
      obtain ⟨y0, y1, y2, k, hxy, _, g0, g1, g2⟩ := trod_struct3 Tryd.underlying45 h2
      match cs', hlen with
      | [v0, v1, v2], _ =>
        simp only [cellsInt, cellsStr] at g0 g1 g2
        obtain ⟨f, e0, rfl, w0⟩ := DataW.trod_int Tryd.underlying3 g0
        obtain ⟨t, e1, rfl, w1⟩ := DataW.trod_int Tryd.underlying3 g1
        obtain ⟨s, e2, rfl, w2⟩ := DataW.trod_string Tryd.underlying9 g2
        simp at e0 e1 e2
        subst e0 e1 e2
        have c0 := hcell 0 (by omega)
        have c1 := hcell 1 (by omega)
        have c2 := hcell 2 (by omega)
        rw [add_add] at c0 c1 c2
        simp only [Prod.mk.injEq] at hxy
        have b0 := bounds_i64 w0
        have b1 := bounds_i64 w1
        exact ⟨⟨f, t, s⟩, ⟨b0.1, b0.2, b1.1, b1.2, w2⟩, hxy.1, by simpa using c0, by simpa using c1, by simpa using c2⟩
    have ne : Nonempty Ed := ⟨⟨0, 0, ⟨#[]⟩⟩⟩
    obtain ⟨E, hE⟩ : ∃ E : Nat → Ed, ∀ i, i < len → EdFit0 (E i) ∧ D i = edData (E i) ∧ w.cell? (ad.add (i * 3)) = some (.int .i64 (E i).f) ∧ w.cell? (ad.add (i * 3 + 1)) = some (.int .i64 (E i).t) ∧ w.cell? (ad.add (i * 3 + 2)) = some (.string (E i).s) := by
      have : ∀ i, ∃ e : Ed, i < len → EdFit0 e ∧ D i = edData e ∧ w.cell? (ad.add (i * 3)) = some (.int .i64 e.f) ∧ w.cell? (ad.add (i * 3 + 1)) = some (.int .i64 e.t) ∧ w.cell? (ad.add (i * 3 + 2)) = some (.string e.s) := by
        intro i
        by_cases hi : i < len
        · obtain ⟨e, he⟩ := each i hi
          exact ⟨e, fun _ => he⟩
        · exact ⟨⟨0, 0, ⟨#[]⟩⟩, fun h => absurd h hi⟩
      exact ⟨fun i => Classical.choose (this i), fun i => Classical.choose_spec (this i)⟩
    refine ⟨(List.range len).map E, by simp, ?_, ?_, by simp, .inr ⟨(List.range (m - len)).map fun j => D (len + j), ?_⟩, hl⟩
    · by_cases h0 : len = 0
      · exact .inl (by simp [h0])
      · obtain ⟨b, off, spot⟩ := ad
        have hspot : spot = none := by simpa [Addr.add] using World.cell?_spot (hE 0 (by omega)).2.2.1
        subst hspot
        have hb : b < w.heap.size := by
          have := (hE 0 (by omega)).2.2.1
          simp [Addr.add] at this
          exact World.block_lt_of_cell? _ _ this
        refine .inr ⟨b, off, rfl, hb, fun i e he => ?_⟩
        have hi : i < len := by
          have := (List.getElem?_eq_some_iff.1 he).1
          simpa using this
        have he' : E i = e := by simpa [hi] using he
        subst he'
        obtain ⟨_, _, c0, c1, c2⟩ := hE i hi
        have ha : ∀ j, (⟨b, off, none⟩ : Addr).add j = ⟨b, off + j, none⟩ := by
          intro j; unfold Addr.add; by_cases hz : j = 0 <;> simp [hz]
        rw [ha] at c0 c1 c2
        exact ⟨c0, by simpa [Nat.add_assoc] using c1, by simpa [Nat.add_assoc] using c2⟩
    · intro e he
      simp only [List.mem_map, List.mem_range] at he
      obtain ⟨i, hi, rfl⟩ := he
      exact (hE i hi).1
    · rw [hx]
      simp only [List.map_map]
      congr 1
      exact List.map_congr_left fun i hi => (hE i (List.mem_range.1 hi)).2.1
end Go.Proofs.YteolfolkolpehaaDoor
