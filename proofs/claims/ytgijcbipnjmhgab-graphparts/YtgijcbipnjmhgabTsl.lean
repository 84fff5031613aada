import Derived.Test.YtgijcbipnjmhgabSmI
import Derived.Maps.AppendAt
namespace Go.Proofs.Ytgijcbipnjmhgab
open Go.ChangeShapes Go.WideShapes Go.ChangeAt Go.RowKit
set_option linter.unusedVariables false
set_option linter.unusedSimpArgs false

/-- a list that stands on a shelf: the slice, how many things, their cells -/
structure Rr where
  v : Value
  n : Nat
  xs : List Value
/-- two lists share no memory -/
def ApR (p q : Rr) : Prop := ∀ g, p.v.ownBlock = some g → q.v.ownBlock ≠ some g
/-- the lists on a shelf (rs) and what they were (us), in the two rows V and U -/
structure She (e te : TypeId) (k B : Nat) (w : World) (V U : Value) (rs us : List Rr) : Prop where
  outV : w.ownsRow B te 1 V rs.length (rs.map Rr.v)
  outU : w.ownsRow B te 1 U us.length (us.map Rr.v)
  each : ∀ r ∈ rs ++ us, w.ownsRow B e k r.v r.n r.xs
  apart : (rs ++ us).Pairwise ApR
  outs : ∀ g, V.ownBlock = some g → U.ownBlock ≠ some g
theorem row_kindR {w : World} {B s : Nat} {e : TypeId} {v : Value} {n : Nat} {xs : List Value} (h : w.ownsRow B e s v n xs) : ∀ g, v.ownBlock = some g → ∃ c fz, w.heap[g]? = some (.cells c e fz) := by
  intro g hg
  rcases h.2 with ⟨rfl, _⟩ | ⟨g', cap, cur, rfl, _, hh, _⟩
  · cases hg
  · cases hg
    exact ⟨_, _, hh⟩
theorem own_otherR {e e' : TypeId} {B B' s s' n n' : Nat} {v v' : Value} {xs xs' : List Value} {w : World} (h : w.ownsRow B e s v n xs) (h' : w.ownsRow B' e' s' v' n' xs') (hne : e' ≠ e) {g : Nat} (hg : v'.ownBlock = some g) : v.ownBlock ≠ some g := by
  intro h1
  obtain ⟨c, fz, hh⟩ := row_kindR h g h1
  obtain ⟨c', fz', hh'⟩ := row_kindR h' g hg
  rw [hh] at hh'
  cases hh'
  exact hne rfl
/-- a row stands while all blocks but one stand -/
theorem own_grwR {e : TypeId} {B s n : Nat} {v : Value} {xs : List Value} {w w' : World} {row : Option Nat} (h : w.ownsRow B e s v n xs) (hg : w.grownBy w' row) (hr : ∀ g, row = some g → v.ownBlock ≠ some g) : w'.ownsRow B e s v n xs := by
  refine ⟨h.1, ?_⟩
  rcases h.2 with k | ⟨g, cap, cur, hv, hgb, hh, r⟩
  · exact .inl k
  · refine .inr ⟨g, cap, cur, hv, hgb, ?_, r⟩
    rw [hg.block g (lt_of_block hh) (fun hrow => ?_)]
    · exact hh
    · exact hr g hrow.symm (by rw [hv]; rfl)
theorem own_belowR {w w' : World} {base e size n B : Nat} {v : Value} {xs : List Value} (h : w.ownsRow base e size v n xs) (hb : Below B w w') (hB : w.heap.size ≤ B) : w'.ownsRow base e size v n xs := by
  obtain ⟨h1, h2⟩ := h
  refine ⟨h1, ?_⟩
  rcases h2 with h2 | ⟨g, cap, cur, hv, hg, hh, r⟩
  · exact .inl h2
  · exact .inr ⟨g, cap, cur, hv, hg, (hb.block g (Nat.lt_of_lt_of_le (lt_of_block hh) hB)).trans hh, r⟩
theorem She.below {e te : TypeId} {k B : Nat} {w w' : World} {V U : Value} {rs us : List Rr} (h : She e te k B w V U rs us) (hb : Below w.heap.size w w') : She e te k B w' V U rs us :=
  ⟨own_belowR h.outV hb (Nat.le_refl _), own_belowR h.outU hb (Nat.le_refl _), fun r hr => own_belowR (h.each r hr) hb (Nat.le_refl _), h.apart, h.outs⟩
theorem She.nil (e te : TypeId) (k B : Nat) (w : World) : She e te k B w (.slice none 0 0) (.slice none 0 0) [] [] :=
  ⟨World.ownsRow_nil _ _ _ _, World.ownsRow_nil _ _ _ _, (fun r hr => by cases hr), List.Pairwise.nil, fun g h => by cases h⟩
/-- a list's place in the row -/
theorem She.get {e te : TypeId} {k B : Nat} {w : World} {V U : Value} {rs us : List Rr} (h : She e te k B w V U rs us) {i : Nat} {r : Rr} (hr : rs[i]? = some r) : w.ownsRow B e k r.v r.n r.xs := h.each r (List.mem_append_left _ (List.mem_of_getElem? hr))
theorem She.getU {e te : TypeId} {k B : Nat} {w : World} {V U : Value} {rs us : List Rr} (h : She e te k B w V U rs us) {i : Nat} {r : Rr} (hr : us[i]? = some r) : w.ownsRow B e k r.v r.n r.xs := h.each r (List.mem_append_right _ (List.mem_of_getElem? hr))
theorem own_slice {w : World} {B s n : Nat} {e : TypeId} {v : Value} {xs : List Value} (h : w.ownsRow B e s v n xs) : ∃ a c, v = .slice a n c ∧ (0 < n → ∃ g, a = some ⟨g, 0, none⟩) ∧ (a = none → n = 0 ∧ c = 0) := by
  rcases h.2 with ⟨hv, h0⟩ | ⟨g, c, cur, hv, _⟩
  · exact ⟨none, 0, by rw [hv, h0], fun h => by omega, fun _ => ⟨h0, rfl⟩⟩
  · exact ⟨some ⟨g, 0, none⟩, c, hv, fun _ => ⟨g, rfl⟩, fun h => by cases h⟩
/-- the i-th slice, as the row's cell -/
theorem She.cellV {e te : TypeId} {k B : Nat} {w : World} {V U : Value} {rs us : List Rr} (h : She e te k B w V U rs us) {i : Nat} {r : Rr} (hr : rs[i]? = some r) : ∃ g c, V = .slice (some ⟨g, 0, none⟩) rs.length c ∧ w.cell? ⟨g, i, none⟩ = some r.v ∧ w.frozen? ⟨g, i, none⟩ = false := by
  have hi := (List.getElem?_eq_some_iff.1 hr).1
  obtain ⟨a, c, hv, ha, -⟩ := own_slice h.outV
  obtain ⟨g, rfl⟩ := ha (by omega)
  have hown := h.outV
  rw [hv] at hown
  refine ⟨g, c, hv, ?_, hown.frozenAt i⟩
  have := hown.cells rfl i r.v (by rw [List.getElem?_map, hr]; rfl)
  rw [show (⟨g, 0, none⟩ : Addr).add i = ⟨g, i, none⟩ by unfold Addr.add; by_cases hz : i = 0 <;> simp [hz]] at this
  exact this
theorem She.cellU {e te : TypeId} {k B : Nat} {w : World} {V U : Value} {rs us : List Rr} (h : She e te k B w V U rs us) {i : Nat} {r : Rr} (hr : us[i]? = some r) : ∃ g c, U = .slice (some ⟨g, 0, none⟩) us.length c ∧ w.cell? ⟨g, i, none⟩ = some r.v := by
  have hi := (List.getElem?_eq_some_iff.1 hr).1
  obtain ⟨a, c, hv, ha, -⟩ := own_slice h.outU
  obtain ⟨g, rfl⟩ := ha (by omega)
  have hown := h.outU
  rw [hv] at hown
  refine ⟨g, c, hv, ?_⟩
  have := hown.cells rfl i r.v (by rw [List.getElem?_map, hr]; rfl)
  rw [show (⟨g, 0, none⟩ : Addr).add i = ⟨g, i, none⟩ by unfold Addr.add; by_cases hz : i = 0 <;> simp [hz]] at this
  exact this
/-- lists that stand apart from the i-th -/
theorem apt_other {rs us : List Rr} (h : (rs ++ us).Pairwise ApR) {i : Nat} {r : Rr} (hr : rs[i]? = some r) {g : Nat} (hg : r.v.ownBlock = some g) : (∀ j q, j ≠ i → rs[j]? = some q → q.v.ownBlock ≠ some g) ∧ ∀ q ∈ us, q.v.ownBlock ≠ some g := by
  have hi := (List.getElem?_eq_some_iff.1 hr)
  rw [List.pairwise_append] at h
  obtain ⟨h1, h2, h3⟩ := h
  refine ⟨fun j q hj hq => ?_, fun q hq => h3 r (List.mem_of_getElem? hr) q hq g hg⟩
  have hjq := List.getElem?_eq_some_iff.1 hq
  rw [List.pairwise_iff_getElem] at h1
  rcases Nat.lt_or_gt_of_ne hj with hlt | hgt
  · have := h1 j i hjq.1 hi.1 hlt
    rw [hjq.2, hi.2] at this
    intro he
    exact this g he hg
  · have := h1 i j hi.1 hjq.1 hgt
    rw [hjq.2, hi.2] at this
    exact this g hg
/-- a thing of the i-th list is written over -/
theorem She.store {e te : TypeId} {k B : Nat} {w : World} {V U : Value} {rs us : List Rr} (h : She e te k B w V U rs us) (hne : te ≠ e) {i : Nat} {r : Rr} (hr : rs[i]? = some r) {g c : Nat} (hv : r.v = .slice (some ⟨g, 0, none⟩) r.n c) (m : Nat) (u : Value) :
    She e te k B (w.setCell ⟨g, m, none⟩ u) V U (rs.set i ⟨r.v, r.n, r.xs.set m u⟩) us := by
  have hg : r.v.ownBlock = some g := by rw [hv]; rfl
  have hro := h.get hr
  have hi := (List.getElem?_eq_some_iff.1 hr)
  obtain ⟨ho, hu⟩ := apt_other h.apart hr hg
  have hmap : (rs.set i ⟨r.v, r.n, r.xs.set m u⟩).map Rr.v = rs.map Rr.v := by
    apply List.ext_getElem?
    intro j
    rw [List.getElem?_map, List.getElem?_map, List.getElem?_set]
    by_cases hj : i = j
    · subst hj; rw [if_pos rfl, if_pos hi.1, hr]; rfl
    · rw [if_neg hj]
  refine ⟨?_, ?_, fun q hq => ?_, ?_, h.outs⟩
  · rw [List.length_set, hmap]
    exact ownsRow_setCell_other h.outV (a := ⟨g, m, none⟩) (own_otherR h.outV hro (fun h => hne h.symm) hg) u
  · exact ownsRow_setCell_other h.outU (a := ⟨g, m, none⟩) (own_otherR h.outU hro (fun h => hne h.symm) hg) u
  · rcases List.mem_append.1 hq with hq | hq
    · obtain ⟨j, hj⟩ := List.getElem?_of_mem hq
      rw [List.getElem?_set] at hj
      by_cases hji : i = j
      · rw [if_pos hji, if_pos hi.1] at hj
        have := (Option.some.inj hj).symm
        subst this
        show (w.setCell ⟨g, m, none⟩ u).ownsRow B e k r.v r.n (r.xs.set m u)
        rw [hv] at hro ⊢
        exact (hro.stored m u).1
      · rw [if_neg hji] at hj
        exact ownsRow_setCell_other (h.get hj) (a := ⟨g, m, none⟩) (ho j q (fun e => hji e.symm) hj) u
    · exact ownsRow_setCell_other (h.each q (List.mem_append_right _ hq)) (a := ⟨g, m, none⟩) (hu q hq) u
  · have h2 := h.apart
    rw [List.pairwise_iff_getElem] at h2 ⊢
    intro a b ha hb hab
    have key : ∀ a (ha : a < (rs.set i ⟨r.v, r.n, r.xs.set m u⟩ ++ us).length), ((rs.set i ⟨r.v, r.n, r.xs.set m u⟩ ++ us)[a]'ha).v = ((rs ++ us)[a]'(by simpa using ha)).v := by
      intro a ha
      by_cases hal : a < rs.length
      · rw [List.getElem_append_left (by simpa using hal), List.getElem_append_left hal, List.getElem_set]
        split
        · rename_i e; subst e; rw [hi.2]
        · rfl
      · rw [List.getElem_append_right (by simp; omega), List.getElem_append_right (by omega)]
        simp
    have := h2 a b (by simpa using ha) (by simpa using hb) hab
    unfold ApR at this ⊢
    rw [key a ha, key b hb]
    exact this
theorem ApR.symm {p q : Rr} (h : ApR p q) : ApR q p := fun g hq hp => h g hp hq
/-- two shelves whose slices are the same but for the i-th -/
theorem apart_set {rs us : List Rr} (h : (rs ++ us).Pairwise ApR) {i : Nat} {r r' : Rr} (hr : rs[i]? = some r) (h1 : ∀ j q, j ≠ i → rs[j]? = some q → ApR q r') (h2 : ∀ q ∈ us, ApR r' q) : (rs.set i r' ++ us).Pairwise ApR := by
  have hi := (List.getElem?_eq_some_iff.1 hr).1
  rw [List.pairwise_append] at h ⊢
  obtain ⟨k1, k2, k3⟩ := h
  refine ⟨?_, k2, fun p hp q hq => ?_⟩
  · rw [List.pairwise_iff_getElem] at k1 ⊢
    intro a b ha hb hab
    rw [List.length_set] at ha hb
    rw [List.getElem_set, List.getElem_set]
    split
    · split
      · omega
      · rename_i e1 e2
        exact (h1 b _ (fun e => e2 e.symm) (List.getElem?_eq_getElem hb)).symm
    · rename_i e1
      split
      · exact h1 a _ (fun e => e1 e.symm) (List.getElem?_eq_getElem ha)
      · exact k1 a b ha hb hab
  · obtain ⟨j, hj⟩ := List.getElem?_of_mem hp
    rw [List.getElem?_set] at hj
    by_cases hji : i = j
    · rw [if_pos hji, if_pos hi] at hj
      rw [← Option.some.inj hj]
      exact h2 q hq
    · rw [if_neg hji] at hj
      exact k3 p (List.mem_of_getElem? hj) q hq
/-- a list grows -/
theorem She.grow {e te : TypeId} {k B : Nat} {w w9 : World} {V U v9 : Value} {rs us : List Rr} (h : She e te k B w V U rs us) (hne : te ≠ e) {i m : Nat} {r : Rr} {news : List Value} (hr : rs[i]? = some r) (hown : w9.ownsRow B e k v9 (r.n + m) (r.xs ++ news)) (hg : w.grownBy w9 r.v.ownBlock) (hat : v9.ownBlock = r.v.ownBlock ∨ v9.ownBlock = some w.heap.size) {gV cV : Nat} (hV : V = .slice (some ⟨gV, 0, none⟩) rs.length cV) :
    She e te k B (w9.setCell ⟨gV, i, none⟩ v9) V U (rs.set i ⟨v9, r.n + m, r.xs ++ news⟩) us := by
  have hi := (List.getElem?_eq_some_iff.1 hr).1
  have hro := h.get hr
  have hgV : V.ownBlock = some gV := by rw [hV]; rfl
  have hoV : w9.ownsRow B te 1 V rs.length (rs.map Rr.v) := own_grwR h.outV hg (fun g hrow => own_otherR h.outV hro (fun e => hne e.symm) hrow)
  have hoU : w9.ownsRow B te 1 U us.length (us.map Rr.v) := own_grwR h.outU hg (fun g hrow => own_otherR h.outU hro (fun e => hne e.symm) hrow)
  have hoth : ∀ q, (∀ g, r.v.ownBlock = some g → q.v.ownBlock ≠ some g) → q ∈ rs ++ us → w9.ownsRow B e k q.v q.n q.xs := fun q hq hm => own_grwR (h.each q hm) hg hq
  have hlt : ∀ q ∈ rs ++ us, ∀ g, q.v.ownBlock = some g → g < w.heap.size := fun q hq g hgq => ((h.each q hq).lt g hgq).2
  have hmap : (rs.set i ⟨v9, r.n + m, r.xs ++ news⟩).map Rr.v = (rs.map Rr.v).set i v9 := by rw [List.map_set]
  refine ⟨?_, ?_, fun q hq => ?_, ?_, h.outs⟩
  · rw [List.length_set, hmap]
    rw [hV] at hoV ⊢
    exact (hoV.stored i v9).1
  · exact ownsRow_setCell_other hoU (a := ⟨gV, i, none⟩) (h.outs gV hgV) v9
  · rcases List.mem_append.1 hq with hq | hq
    · obtain ⟨j, hj⟩ := List.getElem?_of_mem hq
      rw [List.getElem?_set] at hj
      by_cases hji : i = j
      · rw [if_pos hji, if_pos hi] at hj
        rw [← Option.some.inj hj]
        exact ownsRow_setCell_other hown (a := ⟨gV, i, none⟩) (own_otherR hown hoV hne hgV) v9
      · rw [if_neg hji] at hj
        have hq9 := hoth q (fun g hrow => (apt_other h.apart hr hrow).1 j q (fun e => hji e.symm) hj) (List.mem_append_left _ (List.mem_of_getElem? hj))
        exact ownsRow_setCell_other hq9 (a := ⟨gV, i, none⟩) (own_otherR hq9 hoV hne hgV) v9
    · have hq9 := hoth q (fun g hrow => (apt_other h.apart hr hrow).2 q hq) (List.mem_append_right _ hq)
      exact ownsRow_setCell_other hq9 (a := ⟨gV, i, none⟩) (own_otherR hq9 hoV hne hgV) v9
  · refine apart_set h.apart hr (fun j q hj hq g hqg hv => ?_) (fun q hq g hv hqg => ?_)
    · rcases hat with hat | hat
      · rw [hat] at hv
        exact (apt_other h.apart hr hv).1 j q hj hq hqg
      · rw [hat] at hv
        have h1 := hlt q (List.mem_append_left _ (List.mem_of_getElem? hq)) g hqg
        have h2 := Option.some.inj hv
        omega
    · rcases hat with hat | hat
      · rw [hat] at hv
        exact (apt_other h.apart hr hv).2 q hq hqg
      · rw [hat] at hv
        have h1 := hlt q (List.mem_append_right _ hq) g hqg
        have h2 := Option.some.inj hv
        omega
/-- a list more on the shelf -/
theorem She.add {e te : TypeId} {k B : Nat} {w w9 : World} {V U V9 : Value} {rs us : List Rr} (h : She e te k B w V U rs us) (hne : te ≠ e) {L : Rr} (hL : w.ownsRow B e k L.v L.n L.xs) (hap : ∀ q ∈ rs ++ us, ApR q L) (hown : w9.ownsRow B te 1 V9 (rs.length + 1) (rs.map Rr.v ++ [L.v])) (hg : w.grownBy w9 V.ownBlock) (hat : V9.ownBlock = V.ownBlock ∨ V9.ownBlock = some w.heap.size) :
    She e te k B w9 V9 U (rs ++ [L]) us := by
  have hrow : ∀ {q : Rr}, w.ownsRow B e k q.v q.n q.xs → w9.ownsRow B e k q.v q.n q.xs := fun hq => own_grwR hq hg (fun g hV => own_otherR hq h.outV hne hV)
  refine ⟨?_, own_grwR h.outU hg (fun g hV => h.outs g hV), fun q hq => ?_, ?_, fun g hV hU => ?_⟩
  · rw [List.length_append, List.map_append]; exact hown
  · rw [List.append_assoc] at hq
    rcases List.mem_append.1 hq with hq | hq
    · exact hrow (h.each q (List.mem_append_left _ hq))
    · rcases List.mem_append.1 hq with hq | hq
      · rw [List.mem_singleton] at hq; subst hq; exact hrow hL
      · exact hrow (h.each q (List.mem_append_right _ hq))
  · have h1 := h.apart
    rw [List.pairwise_append] at h1
    obtain ⟨k1, k2, k3⟩ := h1
    rw [List.append_assoc, List.pairwise_append]
    refine ⟨k1, List.pairwise_cons.2 ⟨fun q hq => (hap q (List.mem_append_right _ hq)).symm, k2⟩, fun p hp q hq => ?_⟩
    rcases List.mem_cons.1 hq with rfl | hq
    · exact hap p (List.mem_append_left _ hp)
    · exact k3 p hp q hq
  · rcases hat with hat | hat
    · rw [hat] at hV; exact h.outs g hV hU
    · rw [hat] at hV
      have h1 := (h.outU.lt g hU).2
      have h2 := Option.some.inj hV
      omega
theorem She.addU {e te : TypeId} {k B : Nat} {w w9 : World} {V U U9 : Value} {rs us : List Rr} (h : She e te k B w V U rs us) (hne : te ≠ e) {L : Rr} (hL : w.ownsRow B e k L.v L.n L.xs) (hap : ∀ q ∈ rs ++ us, ApR q L) (hown : w9.ownsRow B te 1 U9 (us.length + 1) (us.map Rr.v ++ [L.v])) (hg : w.grownBy w9 U.ownBlock) (hat : U9.ownBlock = U.ownBlock ∨ U9.ownBlock = some w.heap.size) :
    She e te k B w9 V U9 rs (us ++ [L]) := by
  have hrow : ∀ {q : Rr}, w.ownsRow B e k q.v q.n q.xs → w9.ownsRow B e k q.v q.n q.xs := fun hq => own_grwR hq hg (fun g hV => own_otherR hq h.outU hne hV)
  refine ⟨own_grwR h.outV hg (fun g hU hV => h.outs g hV hU), ?_, fun q hq => ?_, ?_, fun g hV hU => ?_⟩
  · rw [List.length_append, List.map_append]; exact hown
  · rw [← List.append_assoc] at hq
    rcases List.mem_append.1 hq with hq | hq
    · exact hrow (h.each q hq)
    · rw [List.mem_singleton] at hq; subst hq; exact hrow hL
  · rw [← List.append_assoc, List.pairwise_append]
    exact ⟨h.apart, List.pairwise_singleton _ _, fun p hp q hq => by rw [List.mem_singleton] at hq; subst hq; exact hap p hp⟩
  · rcases hat with hat | hat
    · rw [hat] at hU; exact h.outs g hV hU
    · rw [hat] at hU
      have h1 := (h.outV.lt g hV).2
      have h2 := Option.some.inj hU
      omega
/-- 'append' onto a slice of the call's own, which may grow, from whatever source: nil, or one that lies somewhere -/
theorem wpList_append_at {P : Program} (w : World) {ops : Array Oper} {rest : List Oper} {o : Oper} {a : Act} {Q : Exit → Act → World → Prop} (hgd : o.guard = none) (s x : Operand) (t : TypeId)
    (ho : o.op = .call { callee := .builtin .append, args := #[s, x], argTypes := #[t, t] })
    (base : Nat) (e : TypeId) (i : TypeInfo) (z : Value) (size bytes : Nat) (ht : P.underlying t = some (.slice e)) (hi : P.info? e = some i) (hz : i.zero = some z)
    (hsize : i.size = size) (hby : i.bytes = bytes) (hzs : z.cells.size = size) (hsz : 0 < size)
    (v : Value) (n : Nat) (xs : List Value) (hs : a.eval s = v) (hown : w.ownsRow base e size v n xs)
    (ao : Option Addr) (m c : Nat) (news : List Value) (hx : a.eval x = .slice ao m c) (hl : news.length = m * size) (hnone : ao = none → m = 0 ∧ c = 0)
    (hnews : ∀ ad, ao = some ad → ∀ j u, news[j]? = some u → w.cell? (ad.add j) = some u) (h1 : ∀ u ∈ news, u.oneCell' = true)
    (h63 : n + m ≤ maxLen) (hbytes : (n + m) * bytes ≤ 140737488355328) (hbase : base ≤ w.heap.size)
    (h : ∀ v' w', w'.ownsRow base e size v' (n + m) (xs ++ news) → w.grownBy w' v.ownBlock → (v'.ownBlock = v.ownBlock ∨ v'.ownBlock = some w.heap.size) → wpList P ops Q rest (a.put o.dst v') w') : wpList P ops Q (o :: rest) a w := by
  cases ao with
  | some ad => exact wpList_append_own_at w hgd s x t ho base e i z size bytes ht hi hz hsize hby hzs hsz v n xs hs hown ad m c news hx hl (hnews ad rfl) h1 h63 hbytes hbase (fun v' w' h2 h3 _ h5 => h v' w' h2 h3 h5)
  | none =>
    obtain ⟨rfl, rfl⟩ := hnone rfl
    have hn : news = [] := List.eq_nil_of_length_eq_zero (by simpa using hl)
    subst hn
    refine wpList_plain hgd fun K hK' => ?_
    have hrun := run_append_owned_none (P := P) w base t o.type e i size ht hi v n xs hown
    unfold Oper.wp
    simp [execOp, ho, resolve, invoke, builtin, hs, hx, hrun, Result.andThen]
    exact hK' _ _ (h v w (by simpa using hown) (World.grownBy.refl _ _) (.inl rfl))
end Go.Proofs.Ytgijcbipnjmhgab
