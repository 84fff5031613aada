import Derived.Test.YtgijcbipnjmhgabGreatInfT
import Derived.Test.YtgijcbipnjmhgabGreatSqb
import Derived.Deep.AppendLies
namespace Go.Proofs.YtgijcbipnjmhgabGreat
open Go.ChangeShapes Go.WideShapes Go.ChangeAt Go.RowKit
set_option linter.unusedVariables false
set_option linter.unusedSimpArgs false

/-- a pair -/
structure Pr where
  a : Int
  b : Int
instance : Rw Pr := ⟨2, fun e => [.int .i64 e.a, .int .i64 e.b], fun _ => rfl, fun e u h => by simp at h; rcases h with rfl | rfl <;> rfl, by decide⟩
theorem Lies.pr {w : World} {b o : Nat} {xs : List Pr} (h : Lies w b o xs) {i : Nat} {e : Pr} (he : xs[i]? = some e) : w.cell? ⟨b, o + i * 2, none⟩ = some (.int .i64 e.a) ∧ w.cell? ⟨b, o + i * 2 + 1, none⟩ = some (.int .i64 e.b) :=
  ⟨h.get he 0 (.int .i64 e.a) rfl, h.get he 1 (.int .i64 e.b) rfl⟩
theorem infoI32 : (Tryz.prog.info? 21).map (fun i => (i.zero, i.size, i.bytes)) = some (some (.int .i32 0), 1, 4) := by kernel_rfl
theorem infoRow32 : (Tryz.prog.info? 76).map (fun i => (i.zero, i.size, i.bytes)) = some (some (.slice none 0 0), 1, 24) := by kernel_rfl
theorem infoRowI : (Tryz.prog.info? 32).map (fun i => (i.zero, i.size, i.bytes)) = some (some (.slice none 0 0), 1, 24) := by kernel_rfl
theorem infoBool : (Tryz.prog.info? 4).map (fun i => (i.zero, i.size, i.bytes)) = some (some (.bool false), 1, 1) := by kernel_rfl
theorem One.grown {g : Nat} {w w' : World} (h : One g w w') : w.grownBy w' (some g) := ⟨h.bel.os, h.bel.tape, h.bel.output, h.bel.size, fun k hk hne => h.keep k hk (fun e => hne (by rw [e]))⟩
theorem Bx.grw {w w' : World} {g : Nat} {vs : Array Value} {t : TypeId} {row : Option Nat} (h : Bx w g vs t) (hg : w.grownBy w' row) (hne : row ≠ some g) : Bx w' g vs t :=
  (hg.block g h.lt (fun e => hne e.symm)).trans h
theorem cells_newR (w : World) (l : List Value) (t : TypeId) : ∀ j u, l[j]? = some u → (w.alloc (.cells l.toArray t)).cell? ((⟨w.heap.size, 0, none⟩ : Addr).add j) = some u := cells_new w l t
/-- a list is another one (in its own block, or in a new one) -/
theorem She.put {e te : TypeId} {k B : Nat} {w w9 : World} {V U v9 : Value} {rs us : List Rr} (h : She e te k B w V U rs us) (hne : te ≠ e) {i n9 : Nat} {r : Rr} {xs9 : List Value} (hr : rs[i]? = some r) (hown : w9.ownsRow B e k v9 n9 xs9) (hg : w.grownBy w9 r.v.ownBlock) (hat : v9.ownBlock = r.v.ownBlock ∨ v9.ownBlock = some w.heap.size) {gV cV : Nat} (hV : V = .slice (some ⟨gV, 0, none⟩) rs.length cV) :
    She e te k B (w9.setCell ⟨gV, i, none⟩ v9) V U (rs.set i ⟨v9, n9, xs9⟩) us := by
  have hi := (List.getElem?_eq_some_iff.1 hr).1
  have hro := h.get hr
  have hgV : V.ownBlock = some gV := by rw [hV]; rfl
  have hoV : w9.ownsRow B te 1 V rs.length (rs.map Rr.v) := own_grwR h.outV hg (fun g hrow => own_otherR h.outV hro (fun e => hne e.symm) hrow)
  have hoU : w9.ownsRow B te 1 U us.length (us.map Rr.v) := own_grwR h.outU hg (fun g hrow => own_otherR h.outU hro (fun e => hne e.symm) hrow)
  have hoth : ∀ q, (∀ g, r.v.ownBlock = some g → q.v.ownBlock ≠ some g) → q ∈ rs ++ us → w9.ownsRow B e k q.v q.n q.xs := fun q hq hm => own_grwR (h.each q hm) hg hq
  have hlt : ∀ q ∈ rs ++ us, ∀ g, q.v.ownBlock = some g → g < w.heap.size := fun q hq g hgq => ((h.each q hq).lt g hgq).2
  have hmap : (rs.set i ⟨v9, n9, xs9⟩).map Rr.v = (rs.map Rr.v).set i v9 := by rw [List.map_set]
  refine ⟨?_, ?_, fun q hq => ?_, ?_, h.outs⟩
  · rw [List.length_set, hmap]
    rw [hV] at hoV ⊢
    exact (hoV.stored i v9).1
  · exact ownsRow_setCell_other hoU (a := ⟨gV, i, none⟩) (h.outs gV hgV) v9
  · rcases List.mem_append.1 hq with hq | hq
    · obtain ⟨j, hj⟩ := List.getElem?_of_mem hq
      rw [List.getElem?_set] at hj
      by_cases hji : i = j
      · rw [if_pos hji, if_pos hi] at hj
        rw [← Option.some.inj hj]
        exact ownsRow_setCell_other hown (a := ⟨gV, i, none⟩) (own_otherR hown hoV hne hgV) v9
      · rw [if_neg hji] at hj
        have hq9 := hoth q (fun g hrow => (apt_other h.apart hr hrow).1 j q (fun e => hji e.symm) hj) (List.mem_append_left _ (List.mem_of_getElem? hj))
        exact ownsRow_setCell_other hq9 (a := ⟨gV, i, none⟩) (own_otherR hq9 hoV hne hgV) v9
    · have hq9 := hoth q (fun g hrow => (apt_other h.apart hr hrow).2 q hq) (List.mem_append_right _ hq)
      exact ownsRow_setCell_other hq9 (a := ⟨gV, i, none⟩) (own_otherR hq9 hoV hne hgV) v9
  · refine apart_set h.apart hr (fun j q hj hq g hqg hv => ?_) (fun q hq g hv hqg => ?_)
    · rcases hat with hat | hat
      · rw [hat] at hv
        exact (apt_other h.apart hr hv).1 j q hj hq hqg
      · rw [hat] at hv
        have h1 := hlt q (List.mem_append_left _ (List.mem_of_getElem? hq)) g hqg
        have h2 := Option.some.inj hv
        omega
    · rcases hat with hat | hat
      · rw [hat] at hv
        exact (apt_other h.apart hr hv).2 q hq hqg
      · rw [hat] at hv
        have h1 := hlt q (List.mem_append_right _ hq) g hqg
        have h2 := Option.some.inj hv
        omega
/-- the lists of what goes out of each thing -/
def Ad (K : IntKind) (ps : List Pr) (rs : List Rr) : Prop := ∀ (x : Nat) (r : Rr), rs[x]? = some r → ∃ ys : List Int, r.n = ys.length ∧ r.xs = ys.map (Value.int K) ∧ ys.length ≤ ps.length ∧ ∀ y, y ∈ ys ↔ (⟨(x : Int), y⟩ : Pr) ∈ ps
theorem Ad.more {K : IntKind} {ps : List Pr} {rs : List Rr} (h : Ad K ps rs) {x : Nat} {r : Rr} (hr : rs[x]? = some r) (v : Value) (b : Int) : Ad K (ps ++ [⟨(x : Int), b⟩]) (rs.set x ⟨v, r.n + 1, r.xs ++ [Value.int K b]⟩) := by
  intro z q hq
  rw [List.getElem?_set] at hq
  by_cases hz : x = z
  · subst hz
    rw [if_pos rfl, if_pos (List.getElem?_eq_some_iff.1 hr).1] at hq
    rw [← Option.some.inj hq]
    obtain ⟨ys, h1, h2, h3, h4⟩ := h x r hr
    refine ⟨ys ++ [b], by rw [List.length_append, h1]; rfl, by rw [List.map_append, h2]; rfl, by simp; omega, fun y => ?_⟩
    simp only [List.mem_append, h4, List.mem_singleton, Pr.mk.injEq, true_and]
  · rw [if_neg hz] at hq
    obtain ⟨ys, h1, h2, h3, h4⟩ := h z q hq
    refine ⟨ys, h1, h2, by simp; omega, fun y => ?_⟩
    rw [h4, List.mem_append, List.mem_singleton]
    constructor
    · exact .inl
    · rintro (h | h)
      · exact h
      · simp only [Pr.mk.injEq] at h; omega
theorem Ad.again {K : IntKind} {ps : List Pr} {rs : List Rr} (h : Ad K ps rs) {x : Nat} {r : Rr} (hr : rs[x]? = some r) (v : Value) (ys zs : List Int) (hy : r.xs = ys.map (Value.int K)) (hk : r.n = ys.length) (hl : zs.length ≤ ys.length) (hm : ∀ y, y ∈ zs ↔ y ∈ ys) : Ad K ps (rs.set x ⟨v, zs.length, zs.map (Value.int K)⟩) := by
  intro z q hq
  rw [List.getElem?_set] at hq
  by_cases hz : x = z
  · subst hz
    rw [if_pos rfl, if_pos (List.getElem?_eq_some_iff.1 hr).1] at hq
    rw [← Option.some.inj hq]
    obtain ⟨ws, h1, h2, h3, h4⟩ := h x r hr
    have hw : ws = ys := by
      rw [hy] at h2
      have hinj : ∀ (l m : List Int), l.map (Value.int K) = m.map (Value.int K) → l = m := fun l => by
        induction l with
        | nil => intro m hm; cases m with | nil => rfl | cons _ _ => cases hm
        | cons a l ih => intro m hm; cases m with
          | nil => cases hm
          | cons b m => simp only [List.map_cons, List.cons.injEq, Value.int.injEq, true_and] at hm; rw [hm.1, ih m hm.2]
      exact (hinj _ _ h2).symm
    subst hw
    exact ⟨zs, rfl, rfl, by omega, fun y => by rw [hm, h4]⟩
  · rw [if_neg hz] at hq
    exact h z q hq
theorem Ad.start {K : IntKind} (n : Nat) : Ad K [] (List.replicate n ⟨.slice none 0 0, 0, []⟩) := by
  intro x r hr
  have : r = ⟨.slice none 0 0, 0, []⟩ := List.eq_of_mem_replicate (List.mem_of_getElem? hr)
  subst this
  exact ⟨[], rfl, rfl, Nat.le_refl _, fun y => by simp⟩
theorem flat_mk (ys : List Int) : flat (ys.map Hn.mk) = ys.map (Value.int .i32) := by
  induction ys with
  | nil => rfl
  | cons y r ih => rw [List.map_cons, flat_cons, ih]; rfl
theorem flat_hns (xs : List Hn) : flat xs = (xs.map Hn.v).map (Value.int .i32) := by
  induction xs with
  | nil => rfl
  | cons y r ih => rw [flat_cons, ih]; rfl
theorem flat_ints (xs : List Int) : flat xs = xs.map (Value.int .i64) := by
  induction xs with
  | nil => rfl
  | cons y r ih => rw [flat_cons, ih]; rfl
/-- n lists with nothing in them -/
theorem She.made {e te : TypeId} {B : Nat} {w : World} {V : Value} {n : Nat} (h : w.ownsRow B te 1 V n (List.replicate n (.slice none 0 0))) : She e te 1 B w V (.slice none 0 0) (List.replicate n ⟨.slice none 0 0, 0, []⟩) [] := by
  refine ⟨by simpa using h, World.ownsRow_nil _ _ _ _, fun r hr => ?_, ?_, fun g _ h => by cases h⟩
  · rw [List.append_nil] at hr
    have : r = ⟨.slice none 0 0, 0, []⟩ := List.eq_of_mem_replicate hr
    subst this
    exact World.ownsRow_nil _ _ _ _
  · rw [List.append_nil]
    exact List.pairwise_replicate.2 (.inr (fun g h => by cases h))
theorem rep_made (z : Value) (n : Nat) : (madeCells #[z] (n * 1)).toList = List.replicate n z := by rw [Nat.mul_one]; exact toList_madeCells_one z n
theorem She.toRow {B : Nat} {te : TypeId} {w : World} {V U : Value} {rs us : List Rr} (h : She 21 te 1 B w V U rs us) {x : Nat} {r : Rr} (hr : rs[x]? = some r) {ys : List Int} (h1 : r.n = ys.length) (h2 : r.xs = ys.map (Value.int .i32)) : (r.v = .slice none 0 0 ∧ ys = []) ∨ ∃ g c, r.v = .slice (some ⟨g, 0, none⟩) r.n c ∧ r.n ≤ c ∧ Row B 21 g r.n c w (ys.map Hn.mk) := by
  have ho := h.get hr
  rcases ho.2 with ⟨hv, h0⟩ | ⟨g, c, cur, hv, hb, hh, hn, hc, hs, ht⟩
  · exact .inl ⟨hv, List.eq_nil_of_length_eq_zero (by omega)⟩
  · refine .inr ⟨g, c, hv, hn, ?_⟩
    rw [h2, hv, ← flat_mk] at ho
    exact ho
end Go.Proofs.YtgijcbipnjmhgabGreat

namespace Go.Proofs.YtgijcbipnjmhgabGreat
set_option linter.unusedVariables false
set_option linter.unusedSimpArgs false

/-- what can be come to -/
inductive Rch (ps : List Pr) : Nat → Nat → Prop
  | refl (x : Nat) : Rch ps x x
  | step {x y z : Nat} : (⟨(x : Int), (y : Int)⟩ : Pr) ∈ ps → Rch ps y z → Rch ps x z
theorem Rch.trans {ps : List Pr} {x y z : Nat} (h : Rch ps x y) (k : Rch ps y z) : Rch ps x z := by
  induction h with
  | refl => exact k
  | step e _ ih => exact .step e (ih k)
/-- how many are not marked -/
def unm (m : List Bool) : Nat := (m.filter fun b => !b).length
theorem unm_le : ∀ (m m' : List Bool), m'.length = m.length → (∀ y : Nat, m[y]? = some true → m'[y]? = some true) → unm m' ≤ unm m
  | [], [], _, _ => Nat.le_refl _
  | [], _ :: _, h, _ => by cases h
  | _ :: _, [], h, _ => by cases h
  | a :: m, b :: m', h, hm => by
    have ih := unm_le m m' (by simpa using h) (fun y hy => hm (y + 1) hy)
    have h0 := hm 0
    unfold unm at ih ⊢
    cases a <;> cases b <;> simp at h0 ⊢ <;> omega
theorem unm_set : ∀ (m : List Bool) (x : Nat), m[x]? = some false → unm (m.set x true) + 1 = unm m
  | [], _, h => by cases h
  | a :: m, 0, h => by simp at h; subst h; simp [unm]
  | a :: m, x + 1, h => by
    have := unm_set m x h
    unfold unm at this ⊢
    cases a <;> simp <;> omega
/-- a walk from marks m and told things t to marks m' and told things t': what is new is in P -/
structure Dq (ps : List Pr) (P : Nat → Prop) (m : List Bool) (t : List Nat) (m' : List Bool) (t' : List Nat) : Prop where
  len : m'.length = m.length
  mono : ∀ y : Nat, m[y]? = some true → m'[y]? = some true
  told : ∃ s : List Nat, t' = t ++ s ∧ s.Nodup ∧ (∀ y ∈ s, m[y]? = some false ∧ m'[y]? = some true) ∧ ∀ y : Nat, m'[y]? = some true → m[y]? = some true ∨ y ∈ s
  reach : ∀ y : Nat, m'[y]? = some true → m[y]? = some true ∨ P y
  closed : ∀ y y' : Nat, m[y]? = some false → m'[y]? = some true → (⟨(y : Int), (y' : Int)⟩ : Pr) ∈ ps → m'[y']? = some true
  cnt : t'.length + unm m' = t.length + unm m
theorem Dq.refl (ps : List Pr) (P : Nat → Prop) (m : List Bool) (t : List Nat) : Dq ps P m t m t :=
  ⟨rfl, fun _ h => h, ⟨[], by simp, List.nodup_nil, (fun y hy => by cases hy), fun y h => .inl h⟩, fun _ h => .inl h, (fun y y' h1 h2 => by rw [h1] at h2; cases h2), rfl⟩
theorem tf {m : List Bool} {y : Nat} (h : m[y]? = some true) (k : m[y]? = some false) : False := by rw [h] at k; cases k
theorem Dq.back {ps : List Pr} {P : Nat → Prop} {m m' : List Bool} {t t' : List Nat} (h : Dq ps P m t m' t') {y : Nat} (hy : m'[y]? = some false) : m[y]? = some false := by
  have hl : y < m.length := by have := (List.getElem?_eq_some_iff.1 hy).1; rw [h.len] at this; exact this
  cases hm : m[y] with
  | false => rw [List.getElem?_eq_getElem hl, hm]
  | true => exact (tf (h.mono y (by rw [List.getElem?_eq_getElem hl, hm])) hy).elim
theorem Dq.trans {ps : List Pr} {P P' : Nat → Prop} {m m1 m2 : List Bool} {t t1 t2 : List Nat} (h : Dq ps P m t m1 t1) (k : Dq ps P' m1 t1 m2 t2) (hP : ∀ y, P' y → P y) : Dq ps P m t m2 t2 := by
  obtain ⟨s1, hs1, hn1, hy1, hz1⟩ := h.told
  obtain ⟨s2, hs2, hn2, hy2, hz2⟩ := k.told
  refine ⟨k.len.trans h.len, fun y hy => k.mono y (h.mono y hy), ⟨s1 ++ s2, by rw [hs2, hs1, List.append_assoc], ?_, fun y hy => ?_, fun y hy => ?_⟩, fun y hy => ?_, fun y y' hy hy2' he => ?_, k.cnt.trans h.cnt⟩
  · refine List.nodup_append.2 ⟨hn1, hn2, fun a ha b hb hab => ?_⟩
    subst hab
    exact tf (hy1 a ha).2 (hy2 a hb).1
  · rcases List.mem_append.1 hy with hy | hy
    · exact ⟨(hy1 y hy).1, k.mono y (hy1 y hy).2⟩
    · exact ⟨h.back (hy2 y hy).1, (hy2 y hy).2⟩
  · rcases hz2 y hy with h2 | h2
    · rcases hz1 y h2 with h3 | h3
      · exact .inl h3
      · exact .inr (List.mem_append_left _ h3)
    · exact .inr (List.mem_append_right _ h2)
  · rcases k.reach y hy with h2 | h2
    · exact h.reach y h2
    · exact .inr (hP y h2)
  · have hl : y < m1.length := by have := (List.getElem?_eq_some_iff.1 hy).1; rw [← h.len] at this; exact this
    cases hm : m1[y] with
    | false => exact k.closed y y' (by rw [List.getElem?_eq_getElem hl, hm]) hy2' he
    | true => exact k.mono y' (h.closed y y' hy (by rw [List.getElem?_eq_getElem hl, hm]) he)
/-- a walk from a thing that was not met: marked, its own walked, told -/
theorem Dq.node {ps : List Pr} {x : Nat} {m m1 : List Bool} {t t1 : List Nat} (hx : m[x]? = some false) (h : Dq ps (Rch ps x) (m.set x true) t m1 t1) (hd : ∀ y' : Nat, (⟨(x : Int), (y' : Int)⟩ : Pr) ∈ ps → m1[y']? = some true) : Dq ps (Rch ps x) m t m1 (t1 ++ [x]) := by
  have hl := (List.getElem?_eq_some_iff.1 hx).1
  have hset : ∀ y : Nat, y ≠ x → (m.set x true)[y]? = m[y]? := fun y hy => by rw [List.getElem?_set, if_neg (fun e => hy e.symm)]
  have hsx : (m.set x true)[x]? = some true := by rw [List.getElem?_set, if_pos rfl, if_pos hl]
  obtain ⟨s, hs, hn, hy, hz⟩ := h.told
  refine ⟨by rw [h.len, List.length_set], fun y hy => h.mono y ?_, ⟨s ++ [x], by rw [hs, List.append_assoc], ?_, fun y hy' => ?_, fun y hy' => ?_⟩, fun y hy' => ?_, fun y y' hy1 hy2 he => ?_, by have h8 := h.cnt; have h9 := unm_set m x hx; rw [List.length_append]; simp; omega⟩
  · by_cases e : y = x
    · subst e; exact hsx
    · rw [hset y e]; exact hy
  · refine List.nodup_append.2 ⟨hn, by simp, fun a ha b hb hab => ?_⟩
    rw [List.mem_singleton] at hb
    subst hb
    subst hab
    exact tf hsx (hy _ ha).1
  · rcases List.mem_append.1 hy' with h1 | h1
    · refine ⟨?_, (hy y h1).2⟩
      have h2 := (hy y h1).1
      by_cases e : y = x
      · subst e; exact (tf hsx h2).elim
      · rw [hset y e] at h2; exact h2
    · rw [List.mem_singleton] at h1
      subst h1
      exact ⟨hx, h.mono _ hsx⟩
  · by_cases e : y = x
    · subst e; exact .inr (by simp)
    · rcases hz y hy' with h1 | h1
      · rw [hset y e] at h1; exact .inl h1
      · exact .inr (List.mem_append_left _ h1)
  · by_cases e : y = x
    · subst e; exact .inr (.refl _)
    · rcases h.reach y hy' with h1 | h1
      · rw [hset y e] at h1; exact .inl h1
      · exact .inr h1
  · by_cases e : y = x
    · subst e; exact hd y' he
    · exact h.closed y y' (by rw [hset y e]; exact hy1) hy2 he
theorem Dq.unm_le {ps : List Pr} {P : Nat → Prop} {m m' : List Bool} {t t' : List Nat} (h : Dq ps P m t m' t') : unm m' ≤ unm m := Go.Proofs.YtgijcbipnjmhgabGreat.unm_le m m' h.len h.mono
end Go.Proofs.YtgijcbipnjmhgabGreat

namespace Go.Proofs.YtgijcbipnjmhgabGreat
set_option linter.unusedVariables false
set_option linter.unusedSimpArgs false

/-- the order of what is told: what a told thing needs is told by then, or was marked ahead, or comes to the thing that is told -/
def Od (ps : List Pr) (m : List Bool) (s : List Nat) : Prop := ∀ (s1 : List Nat) (x : Nat) (s2 : List Nat), s = s1 ++ x :: s2 → ∀ u : Nat, u ∈ s1 ++ [x] → ∀ z : Nat, (⟨(u : Int), (z : Int)⟩ : Pr) ∈ ps → m[z]? = some true ∨ z ∈ s1 ++ [x] ∨ Rch ps z x
/-- a walk, with the order of what it tells -/
structure Dk (ps : List Pr) (P : Nat → Prop) (m : List Bool) (t : List Nat) (m' : List Bool) (t' : List Nat) : Prop extends Dq ps P m t m' t' where
  od : ∃ s, t' = t ++ s ∧ Od ps m s
theorem Dk.refl (ps : List Pr) (P : Nat → Prop) (m : List Bool) (t : List Nat) : Dk ps P m t m t :=
  ⟨Dq.refl ps P m t, [], by simp, fun s1 x s2 h => by simp at h⟩
theorem app_split {a b s1 s2 : List Nat} {x : Nat} (h : a ++ b = s1 ++ x :: s2) : (∃ r, a = s1 ++ x :: r) ∨ ∃ c, s1 = a ++ c ∧ b = c ++ x :: s2 := by
  rcases List.append_eq_append_iff.1 h with ⟨c, h1, h2⟩ | ⟨c, h1, h2⟩
  · exact .inr ⟨c, h1, h2⟩
  · cases c with
    | nil => exact .inr ⟨[], by simpa using h1.symm, by simpa using h2.symm⟩
    | cons y c =>
      simp only [List.cons_append, List.cons.injEq] at h2
      obtain ⟨rfl, -⟩ := h2
      exact .inl ⟨c, h1⟩
theorem Dk.trans {ps : List Pr} {P P' : Nat → Prop} {m m1 m2 : List Bool} {t t1 t2 : List Nat} (h : Dk ps P m t m1 t1) (k : Dk ps P' m1 t1 m2 t2) (hP : ∀ y, P' y → P y) : Dk ps P m t m2 t2 := by
  refine ⟨h.toDq.trans k.toDq hP, ?_⟩
  obtain ⟨sa, ha, oa⟩ := h.od
  obtain ⟨sb, hb, ob⟩ := k.od
  obtain ⟨sa', ha', -, hn, hz⟩ := h.told
  obtain rfl : sa' = sa := List.append_cancel_left (ha'.symm.trans ha)
  refine ⟨sa' ++ sb, by rw [hb, ha, List.append_assoc], fun s1 x s2 e u hu z he => ?_⟩
  rcases app_split e with ⟨r, e1⟩ | ⟨c, rfl, e2⟩
  · exact oa s1 x r e1 u hu z he
  · have hin : ∀ y : Nat, m1[y]? = some true → m[y]? = some true ∨ y ∈ (sa' ++ c) ++ [x] := fun y hy => by
      rcases hz y hy with h1 | h1
      · exact .inl h1
      · exact .inr (List.mem_append_left _ (List.mem_append_left _ h1))
    have hu' : u ∈ sa' ∨ u ∈ c ++ [x] := by
      rw [List.append_assoc] at hu
      exact List.mem_append.1 hu
    rcases hu' with h1 | h1
    · rcases hin z (h.closed u z (hn u h1).1 (hn u h1).2 he) with h2 | h2
      · exact .inl h2
      · exact .inr (.inl h2)
    · rcases ob c x s2 e2 u h1 z he with h2 | h2 | h2
      · rcases hin z h2 with h3 | h3
        · exact .inl h3
        · exact .inr (.inl h3)
      · exact .inr (.inl (by rw [List.append_assoc]; exact List.mem_append_right _ h2))
      · exact .inr (.inr h2)
theorem Dk.node {ps : List Pr} {x : Nat} {m m1 : List Bool} {t t1 : List Nat} (hx : m[x]? = some false) (h : Dk ps (Rch ps x) (m.set x true) t m1 t1) (hd : ∀ y' : Nat, (⟨(x : Int), (y' : Int)⟩ : Pr) ∈ ps → m1[y']? = some true) : Dk ps (Rch ps x) m t m1 (t1 ++ [x]) := by
  refine ⟨h.toDq.node hx hd, ?_⟩
  have hl := (List.getElem?_eq_some_iff.1 hx).1
  have hset : ∀ y : Nat, (m.set x true)[y]? = some true → y = x ∨ m[y]? = some true := fun y hy => by
    by_cases e : y = x
    · exact .inl e
    · rw [List.getElem?_set, if_neg (fun e2 => e e2.symm)] at hy; exact .inr hy
  obtain ⟨s, hs, os⟩ := h.od
  obtain ⟨s', hs', -, hn, hz⟩ := h.told
  obtain rfl : s' = s := List.append_cancel_left (hs'.symm.trans hs)
  refine ⟨s' ++ [x], by rw [hs, List.append_assoc], fun s1 y s2 e u hu z he => ?_⟩
  rcases app_split e with ⟨r, e1⟩ | ⟨c, rfl, e2⟩
  · have hys : y ∈ s' := by rw [e1]; simp
    rcases os s1 y r e1 u hu z he with h1 | h1 | h1
    · rcases hset z h1 with h2 | h2
      · subst h2
        rcases h.reach y (hn y hys).2 with h3 | h3
        · exact (tf h3 (hn y hys).1).elim
        · exact .inr (.inr h3)
      · exact .inl h2
    · exact .inr (.inl h1)
    · exact .inr (.inr h1)
  · cases c with
    | cons a c => simp at e2
    | nil =>
      simp only [List.nil_append, List.cons.injEq] at e2
      obtain ⟨rfl, -⟩ := e2
      rw [List.append_nil] at hu ⊢
      have hm : m1[z]? = some true := by
        rcases List.mem_append.1 hu with h1 | h1
        · exact h.closed u z (hn u h1).1 (hn u h1).2 he
        · rw [List.mem_singleton] at h1; subst h1; exact hd z he
      rcases hz z hm with h1 | h1
      · rcases hset z h1 with h2 | h2
        · subst h2; exact .inr (.inl (by simp))
        · exact .inl h2
      · exact .inr (.inl (List.mem_append_left _ h1))
/-- the whole list: what is needed by what is told up to x is told by then, or comes to x -/
def Fnl (ps : List Pr) (t : List Nat) : Prop := ∀ (s1 : List Nat) (x : Nat) (s2 : List Nat), t = s1 ++ x :: s2 → ∀ u : Nat, u ∈ s1 ++ [x] → ∀ z : Nat, (⟨(u : Int), (z : Int)⟩ : Pr) ∈ ps → z ∈ s1 ++ [x] ∨ Rch ps z x
theorem Od.fin {ps : List Pr} {n : Nat} {s : List Nat} (h : Od ps (List.replicate n false) s) : Fnl ps s := fun s1 x s2 e u hu z he => by
  rcases h s1 x s2 e u hu z he with h1 | h1
  · rw [List.getElem?_replicate] at h1
    split at h1 <;> cases h1
  · exact h1
/-- a way to x, by its things -/
inductive RP (ps : List Pr) (x : Nat) : List Nat → Prop
  | one : RP ps x [x]
  | cons {y p : Nat} {l : List Nat} : (⟨(y : Int), (p : Int)⟩ : Pr) ∈ ps → RP ps x (p :: l) → RP ps x (y :: p :: l)
theorem Rch.rp {ps : List Pr} {y x : Nat} (h : Rch ps y x) : ∃ l, RP ps x (y :: l) := by
  induction h with
  | refl x => exact ⟨[], .one⟩
  | step e _ ih =>
    obtain ⟨l, hl⟩ := ih
    exact ⟨_, .cons e hl⟩
theorem RP.cross {ps : List Pr} {x : Nat} {A : Nat → Prop} (hx : ¬ A x) : ∀ {l : List Nat}, RP ps x l → ∀ y l', l = y :: l' → A y → ∃ u z : Nat, (⟨(u : Int), (z : Int)⟩ : Pr) ∈ ps ∧ A u ∧ ¬ A z ∧ z ∈ l' := by
  intro l h
  induction h with
  | one => intro y l' e hy; cases e; exact absurd hy hx
  | @cons a p l he hr ih =>
    intro y l' e hy
    injection e with e1 e2
    subst e1 e2
    by_cases hp : A p
    · obtain ⟨u, z, h1, h2, h3, h4⟩ := ih p l rfl hp
      exact ⟨u, z, h1, h2, h3, List.mem_cons_of_mem _ h4⟩
    · exact ⟨a, p, he, hy, hp, List.mem_cons_self⟩
/-- from the last that was told and is left: what comes to it is come to -/
theorem kos_path {ps : List Pr} {t pre rest : List Nat} {x : Nat} (ht : t.Nodup) (hf : Fnl ps t) (e : t = pre ++ x :: rest) : ∀ {l : List Nat}, RP ps x l → (∀ v ∈ l, v ∈ pre ++ [x]) → ∀ v ∈ l, Rch ps x v := by
  intro l h
  induction h with
  | one => intro _ v hv; rw [List.mem_singleton] at hv; subst hv; exact .refl _
  | @cons y p l he hr ih =>
    intro hin v hv
    have ih' := ih (fun v hv => hin v (List.mem_cons_of_mem _ hv))
    rcases List.mem_cons.1 hv with hvy | hv
    · subst hvy
      by_cases hyx : v = x
      · subst hyx; exact .refl _
      · have hvp : v ∈ pre := by
          rcases List.mem_append.1 (hin v List.mem_cons_self) with h1 | h1
          · exact h1
          · rw [List.mem_singleton] at h1; exact absurd h1 hyx
        obtain ⟨s1, s2, hs⟩ := List.append_of_mem hvp
        have ht2 : t = s1 ++ v :: (s2 ++ x :: rest) := by rw [e, hs]; simp
        have hxa : x ∉ s1 ++ [v] := fun hx => by
          rw [ht2, show s1 ++ v :: (s2 ++ x :: rest) = (s1 ++ [v]) ++ (s2 ++ x :: rest) by simp] at ht
          exact (List.nodup_append.1 ht).2.2 x hx x (by simp) rfl
        obtain ⟨u, z, h1, h2, h3, h4⟩ := RP.cross (A := fun a => a ∈ s1 ++ [v]) hxa (.cons he hr) v (p :: l) rfl (by simp)
        rcases hf s1 v (s2 ++ x :: rest) ht2 u h2 z h1 with h5 | h5
        · exact absurd h5 h3
        · exact (ih' z h4).trans h5
    · exact ih' v hv
theorem kos {ps : List Pr} {t pre rest : List Nat} {x y : Nat} {M : Nat → Prop} (ht : t.Nodup) (hf : Fnl ps t) (e : t = pre ++ x :: rest) (hall : ∀ u v : Nat, (⟨(u : Int), (v : Int)⟩ : Pr) ∈ ps → v ∈ t) (hM : ∀ u v : Nat, (⟨(u : Int), (v : Int)⟩ : Pr) ∈ ps → M v → M u) (hr : ∀ v ∈ rest, M v) (hyt : y ∈ t) (hy : ¬ M y) (h : Rch ps y x) : Rch ps x y := by
  obtain ⟨l, hl⟩ := h.rp
  refine kos_path ht hf e hl ?_ y List.mem_cons_self
  have hunm : ∀ {l : List Nat}, RP ps x l → ∀ y l', l = y :: l' → y ∈ t → ¬ M y → ∀ v ∈ l, v ∈ t ∧ ¬ M v := by
    intro l h
    induction h with
    | one => intro y l' e h1 h2 v hv; cases e; rw [List.mem_singleton] at hv; subst hv; exact ⟨h1, h2⟩
    | @cons a p l he hr ih =>
      intro y l' e h1 h2 v hv
      injection e with e1 e2
      subst e1
      rcases List.mem_cons.1 hv with h3 | h3
      · subst h3; exact ⟨h1, h2⟩
      · exact ih p l rfl (hall _ _ he) (fun h4 => h2 (hM _ _ he h4)) v h3
  intro v hv
  obtain ⟨h1, h2⟩ := hunm hl y l rfl hyt hy v hv
  rw [e, show pre ++ x :: rest = (pre ++ [x]) ++ rest by simp] at h1
  rcases List.mem_append.1 h1 with h3 | h3
  · exact h3
  · exact absurd (hr v h3) h2
end Go.Proofs.YtgijcbipnjmhgabGreat
