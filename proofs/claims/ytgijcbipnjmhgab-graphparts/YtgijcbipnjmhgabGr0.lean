import Derived.Test.YtgijcbipnjmhgabTsl
import Derived.Test.YtgijcbipnjmhgabCpt
import Derived.Test.YtgijcbipnjmhgabSmI
import Derived.Deep.AppendLies
namespace Go.Proofs.Ytgijcbipnjmhgab
open Go.ChangeShapes Go.WideShapes Go.ChangeAt Go.RowKit
set_option linter.unusedVariables false
set_option linter.unusedSimpArgs false

/-- a pair -/
structure Pr where
  a : Int
  b : Int
instance : Rw Pr := ⟨2, fun e => [.int .i64 e.a, .int .i64 e.b], fun _ => rfl, fun e u h => by simp at h; rcases h with rfl | rfl <;> rfl, by decide⟩
theorem Lies.pr {w : World} {b o : Nat} {xs : List Pr} (h : Lies w b o xs) {i : Nat} {e : Pr} (he : xs[i]? = some e) : w.cell? ⟨b, o + i * 2, none⟩ = some (.int .i64 e.a) ∧ w.cell? ⟨b, o + i * 2 + 1, none⟩ = some (.int .i64 e.b) :=
  ⟨h.get he 0 (.int .i64 e.a) rfl, h.get he 1 (.int .i64 e.b) rfl⟩
theorem infoI32 : (Try.prog.info? 21).map (fun i => (i.zero, i.size, i.bytes)) = some (some (.int .i32 0), 1, 4) := by kernel_rfl
theorem infoRow32 : (Try.prog.info? 59).map (fun i => (i.zero, i.size, i.bytes)) = some (some (.slice none 0 0), 1, 24) := by kernel_rfl
theorem infoRowI : (Try.prog.info? 24).map (fun i => (i.zero, i.size, i.bytes)) = some (some (.slice none 0 0), 1, 24) := by kernel_rfl
theorem infoBool : (Try.prog.info? 4).map (fun i => (i.zero, i.size, i.bytes)) = some (some (.bool false), 1, 1) := by kernel_rfl
theorem One.grown {g : Nat} {w w' : World} (h : One g w w') : w.grownBy w' (some g) := ⟨h.bel.os, h.bel.tape, h.bel.output, h.bel.size, fun k hk hne => h.keep k hk (fun e => hne (by rw [e]))⟩
theorem Bx.grw {w w' : World} {g : Nat} {vs : Array Value} {t : TypeId} {row : Option Nat} (h : Bx w g vs t) (hg : w.grownBy w' row) (hne : row ≠ some g) : Bx w' g vs t :=
  (hg.block g h.lt (fun e => hne e.symm)).trans h
theorem cells_newR (w : World) (l : List Value) (t : TypeId) : ∀ j u, l[j]? = some u → (w.alloc (.cells l.toArray t)).cell? ((⟨w.heap.size, 0, none⟩ : Addr).add j) = some u := cells_new w l t
/-- a list is another one (in its own block, or in a new one) -/
theorem She.put {e te : TypeId} {k B : Nat} {w w9 : World} {V U v9 : Value} {rs us : List Rr} (h : She e te k B w V U rs us) (hne : te ≠ e) {i n9 : Nat} {r : Rr} {xs9 : List Value} (hr : rs[i]? = some r) (hown : w9.ownsRow B e k v9 n9 xs9) (hg : w.grownBy w9 r.v.ownBlock) (hat : v9.ownBlock = r.v.ownBlock ∨ v9.ownBlock = some w.heap.size) {gV cV : Nat} (hV : V = .slice (some ⟨gV, 0, none⟩) rs.length cV) :
    She e te k B (w9.setCell ⟨gV, i, none⟩ v9) V U (rs.set i ⟨v9, n9, xs9⟩) us := by
  have hi := (List.getElem?_eq_some_iff.1 hr).1
  have hro := h.get hr
  have hgV : V.ownBlock = some gV := by rw [hV]; rfl
  have hoV : w9.ownsRow B te 1 V rs.length (rs.map Rr.v) := own_grwR h.outV hg (fun g hrow => own_otherR h.outV hro (fun e => hne e.symm) hrow)
  have hoU : w9.ownsRow B te 1 U us.length (us.map Rr.v) := own_grwR h.outU hg (fun g hrow => own_otherR h.outU hro (fun e => hne e.symm) hrow)
  have hoth : ∀ q, (∀ g, r.v.ownBlock = some g → q.v.ownBlock ≠ some g) → q ∈ rs ++ us → w9.ownsRow B e k q.v q.n q.xs := fun q hq hm => own_grwR (h.each q hm) hg hq
  have hlt : ∀ q ∈ rs ++ us, ∀ g, q.v.ownBlock = some g → g < w.heap.size := fun q hq g hgq => ((h.each q hq).lt g hgq).2
  have hmap : (rs.set i ⟨v9, n9, xs9⟩).map Rr.v = (rs.map Rr.v).set i v9 := by rw [List.map_set]
  refine ⟨?_, ?_, fun q hq => ?_, ?_, h.outs⟩
  · rw [List.length_set, hmap]
    rw [hV] at hoV ⊢
    exact (hoV.stored i v9).1
  · exact ownsRow_setCell_other hoU (a := ⟨gV, i, none⟩) (h.outs gV hgV) v9
  · rcases List.mem_append.1 hq with hq | hq
    · obtain ⟨j, hj⟩ := List.getElem?_of_mem hq
      rw [List.getElem?_set] at hj
      by_cases hji : i = j
      · rw [if_pos hji, if_pos hi] at hj
        rw [← Option.some.inj hj]
        exact ownsRow_setCell_other hown (a := ⟨gV, i, none⟩) (own_otherR hown hoV hne hgV) v9
      · rw [if_neg hji] at hj
        have hq9 := hoth q (fun g hrow => (apt_other h.apart hr hrow).1 j q (fun e => hji e.symm) hj) (List.mem_append_left _ (List.mem_of_getElem? hj))
        exact ownsRow_setCell_other hq9 (a := ⟨gV, i, none⟩) (own_otherR hq9 hoV hne hgV) v9
    · have hq9 := hoth q (fun g hrow => (apt_other h.apart hr hrow).2 q hq) (List.mem_append_right _ hq)
      exact ownsRow_setCell_other hq9 (a := ⟨gV, i, none⟩) (own_otherR hq9 hoV hne hgV) v9
  · refine apart_set h.apart hr (fun j q hj hq g hqg hv => ?_) (fun q hq g hv hqg => ?_)
    · rcases hat with hat | hat
      · rw [hat] at hv
        exact (apt_other h.apart hr hv).1 j q hj hq hqg
      · rw [hat] at hv
        have h1 := hlt q (List.mem_append_left _ (List.mem_of_getElem? hq)) g hqg
        have h2 := Option.some.inj hv
        omega
    · rcases hat with hat | hat
      · rw [hat] at hv
        exact (apt_other h.apart hr hv).2 q hq hqg
      · rw [hat] at hv
        have h1 := hlt q (List.mem_append_right _ hq) g hqg
        have h2 := Option.some.inj hv
        omega
/-- the lists of what goes out of each thing -/
def Ad (K : IntKind) (ps : List Pr) (rs : List Rr) : Prop := ∀ (x : Nat) (r : Rr), rs[x]? = some r → ∃ ys : List Int, r.n = ys.length ∧ r.xs = ys.map (Value.int K) ∧ ys.length ≤ ps.length ∧ ∀ y, y ∈ ys ↔ (⟨(x : Int), y⟩ : Pr) ∈ ps
theorem Ad.more {K : IntKind} {ps : List Pr} {rs : List Rr} (h : Ad K ps rs) {x : Nat} {r : Rr} (hr : rs[x]? = some r) (v : Value) (b : Int) : Ad K (ps ++ [⟨(x : Int), b⟩]) (rs.set x ⟨v, r.n + 1, r.xs ++ [Value.int K b]⟩) := by
  intro z q hq
  rw [List.getElem?_set] at hq
  by_cases hz : x = z
  · subst hz
    rw [if_pos rfl, if_pos (List.getElem?_eq_some_iff.1 hr).1] at hq
    rw [← Option.some.inj hq]
    obtain ⟨ys, h1, h2, h3, h4⟩ := h x r hr
    refine ⟨ys ++ [b], by rw [List.length_append, h1]; rfl, by rw [List.map_append, h2]; rfl, by simp; omega, fun y => ?_⟩
    simp only [List.mem_append, h4, List.mem_singleton, Pr.mk.injEq, true_and]
  · rw [if_neg hz] at hq
    obtain ⟨ys, h1, h2, h3, h4⟩ := h z q hq
    refine ⟨ys, h1, h2, by simp; omega, fun y => ?_⟩
    rw [h4, List.mem_append, List.mem_singleton]
    constructor
    · exact .inl
    · rintro (h | h)
      · exact h
      · simp only [Pr.mk.injEq] at h; omega
theorem Ad.again {K : IntKind} {ps : List Pr} {rs : List Rr} (h : Ad K ps rs) {x : Nat} {r : Rr} (hr : rs[x]? = some r) (v : Value) (ys zs : List Int) (hy : r.xs = ys.map (Value.int K)) (hk : r.n = ys.length) (hl : zs.length ≤ ys.length) (hm : ∀ y, y ∈ zs ↔ y ∈ ys) : Ad K ps (rs.set x ⟨v, zs.length, zs.map (Value.int K)⟩) := by
  intro z q hq
  rw [List.getElem?_set] at hq
  by_cases hz : x = z
  · subst hz
    rw [if_pos rfl, if_pos (List.getElem?_eq_some_iff.1 hr).1] at hq
    rw [← Option.some.inj hq]
    obtain ⟨ws, h1, h2, h3, h4⟩ := h x r hr
    have hw : ws = ys := by
      rw [hy] at h2
      have hinj : ∀ (l m : List Int), l.map (Value.int K) = m.map (Value.int K) → l = m := fun l => by
        induction l with
        | nil => intro m hm; cases m with | nil => rfl | cons _ _ => cases hm
        | cons a l ih => intro m hm; cases m with
          | nil => cases hm
          | cons b m => simp only [List.map_cons, List.cons.injEq, Value.int.injEq, true_and] at hm; rw [hm.1, ih m hm.2]
      exact (hinj _ _ h2).symm
    subst hw
    exact ⟨zs, rfl, rfl, by omega, fun y => by rw [hm, h4]⟩
  · rw [if_neg hz] at hq
    exact h z q hq
theorem Ad.start {K : IntKind} (n : Nat) : Ad K [] (List.replicate n ⟨.slice none 0 0, 0, []⟩) := by
  intro x r hr
  have : r = ⟨.slice none 0 0, 0, []⟩ := List.eq_of_mem_replicate (List.mem_of_getElem? hr)
  subst this
  exact ⟨[], rfl, rfl, Nat.le_refl _, fun y => by simp⟩
theorem flat_mk (ys : List Int) : flat (ys.map Hn.mk) = ys.map (Value.int .i32) := by
  induction ys with
  | nil => rfl
  | cons y r ih => rw [List.map_cons, flat_cons, ih]; rfl
theorem flat_hns (xs : List Hn) : flat xs = (xs.map Hn.v).map (Value.int .i32) := by
  induction xs with
  | nil => rfl
  | cons y r ih => rw [flat_cons, ih]; rfl
theorem flat_ints (xs : List Int) : flat xs = xs.map (Value.int .i64) := by
  induction xs with
  | nil => rfl
  | cons y r ih => rw [flat_cons, ih]; rfl
/-- n lists with nothing in them -/
theorem She.made {e te : TypeId} {B : Nat} {w : World} {V : Value} {n : Nat} (h : w.ownsRow B te 1 V n (List.replicate n (.slice none 0 0))) : She e te 1 B w V (.slice none 0 0) (List.replicate n ⟨.slice none 0 0, 0, []⟩) [] := by
  refine ⟨by simpa using h, World.ownsRow_nil _ _ _ _, fun r hr => ?_, ?_, fun g _ h => by cases h⟩
  · rw [List.append_nil] at hr
    have : r = ⟨.slice none 0 0, 0, []⟩ := List.eq_of_mem_replicate hr
    subst this
    exact World.ownsRow_nil _ _ _ _
  · rw [List.append_nil]
    exact List.pairwise_replicate.2 (.inr (fun g h => by cases h))
theorem rep_made (z : Value) (n : Nat) : (madeCells #[z] (n * 1)).toList = List.replicate n z := by rw [Nat.mul_one]; exact toList_madeCells_one z n
theorem She.toRow {B : Nat} {te : TypeId} {w : World} {V U : Value} {rs us : List Rr} (h : She 21 te 1 B w V U rs us) {x : Nat} {r : Rr} (hr : rs[x]? = some r) {ys : List Int} (h1 : r.n = ys.length) (h2 : r.xs = ys.map (Value.int .i32)) : (r.v = .slice none 0 0 ∧ ys = []) ∨ ∃ g c, r.v = .slice (some ⟨g, 0, none⟩) r.n c ∧ r.n ≤ c ∧ Row B 21 g r.n c w (ys.map Hn.mk) := by
  have ho := h.get hr
  rcases ho.2 with ⟨hv, h0⟩ | ⟨g, c, cur, hv, hb, hh, hn, hc, hs, ht⟩
  · exact .inl ⟨hv, List.eq_nil_of_length_eq_zero (by omega)⟩
  · refine .inr ⟨g, c, hv, hn, ?_⟩
    rw [h2, hv, ← flat_mk] at ho
    exact ho
end Go.Proofs.Ytgijcbipnjmhgab
