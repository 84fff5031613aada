import Derived.Test.YtgijcbipnjmhgaaTsl
import Derived.Test.YtgijcbipnjmhgaaCpt
import Derived.Test.YtgijcbipnjmhgaaSmD
import Derived.Deep.AppendLies
import Derived.OwnWalk
import Derived.ChangeKeysEq
import Derived.Laws.StructEq
namespace Go.Proofs.Ytgijcbipnjmhgaa
open Go.ChangeShapes Go.WideShapes Go.ChangeAt Go.RowKit
set_option linter.unusedVariables false
set_option linter.unusedSimpArgs false

/-- a pair -/
structure Pr where
  a : Int
  b : Int
instance : Rw Pr := ⟨2, fun e => [.int .i64 e.a, .int .i64 e.b], fun _ => rfl, fun e u h => by simp at h; rcases h with rfl | rfl <;> rfl, by decide⟩
theorem Lies.pr {w : World} {b o : Nat} {xs : List Pr} (h : Lies w b o xs) {i : Nat} {e : Pr} (he : xs[i]? = some e) : w.cell? ⟨b, o + i * 2, none⟩ = some (.int .i64 e.a) ∧ w.cell? ⟨b, o + i * 2 + 1, none⟩ = some (.int .i64 e.b) :=
  ⟨h.get he 0 (.int .i64 e.a) rfl, h.get he 1 (.int .i64 e.b) rfl⟩
theorem infoI32 : (Try.prog.info? 21).map (fun i => (i.zero, i.size, i.bytes)) = some (some (.int .i32 0), 1, 4) := by kernel_rfl
theorem infoRow32 : (Try.prog.info? 60).map (fun i => (i.zero, i.size, i.bytes)) = some (some (.slice none 0 0), 1, 24) := by kernel_rfl
theorem infoRowI : (Try.prog.info? 24).map (fun i => (i.zero, i.size, i.bytes)) = some (some (.slice none 0 0), 1, 24) := by kernel_rfl
theorem infoBool : (Try.prog.info? 4).map (fun i => (i.zero, i.size, i.bytes)) = some (some (.bool false), 1, 1) := by kernel_rfl
theorem One.grown {g : Nat} {w w' : World} (h : One g w w') : w.grownBy w' (some g) := ⟨h.bel.os, h.bel.tape, h.bel.output, h.bel.size, fun k hk hne => h.keep k hk (fun e => hne (by rw [e]))⟩
theorem Bx.grw {w w' : World} {g : Nat} {vs : Array Value} {t : TypeId} {row : Option Nat} (h : Bx w g vs t) (hg : w.grownBy w' row) (hne : row ≠ some g) : Bx w' g vs t :=
  (hg.block g h.lt (fun e => hne e.symm)).trans h
theorem cells_newR (w : World) (l : List Value) (t : TypeId) : ∀ j u, l[j]? = some u → (w.alloc (.cells l.toArray t)).cell? ((⟨w.heap.size, 0, none⟩ : Addr).add j) = some u := cells_new w l t
/-- a list is another one (in its own block, or in a new one) -/
theorem She.put {e te : TypeId} {k B : Nat} {w w9 : World} {V U v9 : Value} {rs us : List Rr} (h : She e te k B w V U rs us) (hne : te ≠ e) {i n9 : Nat} {r : Rr} {xs9 : List Value} (hr : rs[i]? = some r) (hown : w9.ownsRow B e k v9 n9 xs9) (hg : w.grownBy w9 r.v.ownBlock) (hat : v9.ownBlock = r.v.ownBlock ∨ v9.ownBlock = some w.heap.size) {gV cV : Nat} (hV : V = .slice (some ⟨gV, 0, none⟩) rs.length cV) :
    She e te k B (w9.setCell ⟨gV, i, none⟩ v9) V U (rs.set i ⟨v9, n9, xs9⟩) us := by
  have hi := (List.getElem?_eq_some_iff.1 hr).1
  have hro := h.get hr
  have hgV : V.ownBlock = some gV := by rw [hV]; rfl
  have hoV : w9.ownsRow B te 1 V rs.length (rs.map Rr.v) := own_grwR h.outV hg (fun g hrow => own_otherR h.outV hro (fun e => hne e.symm) hrow)
  have hoU : w9.ownsRow B te 1 U us.length (us.map Rr.v) := own_grwR h.outU hg (fun g hrow => own_otherR h.outU hro (fun e => hne e.symm) hrow)
  have hoth : ∀ q, (∀ g, r.v.ownBlock = some g → q.v.ownBlock ≠ some g) → q ∈ rs ++ us → w9.ownsRow B e k q.v q.n q.xs := fun q hq hm => own_grwR (h.each q hm) hg hq
  have hlt : ∀ q ∈ rs ++ us, ∀ g, q.v.ownBlock = some g → g < w.heap.size := fun q hq g hgq => ((h.each q hq).lt g hgq).2
  have hmap : (rs.set i ⟨v9, n9, xs9⟩).map Rr.v = (rs.map Rr.v).set i v9 := by rw [List.map_set]
  refine ⟨?_, ?_, fun q hq => ?_, ?_, h.outs⟩
  · rw [List.length_set, hmap]
    rw [hV] at hoV ⊢
    exact (hoV.stored i v9).1
  · exact ownsRow_setCell_other hoU (a := ⟨gV, i, none⟩) (h.outs gV hgV) v9
  · rcases List.mem_append.1 hq with hq | hq
    · obtain ⟨j, hj⟩ := List.getElem?_of_mem hq
      rw [List.getElem?_set] at hj
      by_cases hji : i = j
      · rw [if_pos hji, if_pos hi] at hj
        rw [← Option.some.inj hj]
        exact ownsRow_setCell_other hown (a := ⟨gV, i, none⟩) (own_otherR hown hoV hne hgV) v9
      · rw [if_neg hji] at hj
        have hq9 := hoth q (fun g hrow => (apt_other h.apart hr hrow).1 j q (fun e => hji e.symm) hj) (List.mem_append_left _ (List.mem_of_getElem? hj))
        exact ownsRow_setCell_other hq9 (a := ⟨gV, i, none⟩) (own_otherR hq9 hoV hne hgV) v9
    · have hq9 := hoth q (fun g hrow => (apt_other h.apart hr hrow).2 q hq) (List.mem_append_right _ hq)
      exact ownsRow_setCell_other hq9 (a := ⟨gV, i, none⟩) (own_otherR hq9 hoV hne hgV) v9
  · refine apart_set h.apart hr (fun j q hj hq g hqg hv => ?_) (fun q hq g hv hqg => ?_)
    · rcases hat with hat | hat
      · rw [hat] at hv
        exact (apt_other h.apart hr hv).1 j q hj hq hqg
      · rw [hat] at hv
        have h1 := hlt q (List.mem_append_left _ (List.mem_of_getElem? hq)) g hqg
        have h2 := Option.some.inj hv
        omega
    · rcases hat with hat | hat
      · rw [hat] at hv
        exact (apt_other h.apart hr hv).2 q hq hqg
      · rw [hat] at hv
        have h1 := hlt q (List.mem_append_right _ hq) g hqg
        have h2 := Option.some.inj hv
        omega
/-- the lists of what goes out of each thing -/
def Ad (K : IntKind) (ps : List Pr) (rs : List Rr) : Prop := ∀ (x : Nat) (r : Rr), rs[x]? = some r → ∃ ys : List Int, r.n = ys.length ∧ r.xs = ys.map (Value.int K) ∧ ys.length ≤ ps.length ∧ ∀ y, y ∈ ys ↔ (⟨(x : Int), y⟩ : Pr) ∈ ps
theorem Ad.more {K : IntKind} {ps : List Pr} {rs : List Rr} (h : Ad K ps rs) {x : Nat} {r : Rr} (hr : rs[x]? = some r) (v : Value) (b : Int) : Ad K (ps ++ [⟨(x : Int), b⟩]) (rs.set x ⟨v, r.n + 1, r.xs ++ [Value.int K b]⟩) := by
  intro z q hq
  rw [List.getElem?_set] at hq
  by_cases hz : x = z
  · subst hz
    rw [if_pos rfl, if_pos (List.getElem?_eq_some_iff.1 hr).1] at hq
    rw [← Option.some.inj hq]
    obtain ⟨ys, h1, h2, h3, h4⟩ := h x r hr
    refine ⟨ys ++ [b], by rw [List.length_append, h1]; rfl, by rw [List.map_append, h2]; rfl, by simp; omega, fun y => ?_⟩
    simp only [List.mem_append, h4, List.mem_singleton, Pr.mk.injEq, true_and]
  · rw [if_neg hz] at hq
    obtain ⟨ys, h1, h2, h3, h4⟩ := h z q hq
    refine ⟨ys, h1, h2, by simp; omega, fun y => ?_⟩
    rw [h4, List.mem_append, List.mem_singleton]
    constructor
    · exact .inl
    · rintro (h | h)
      · exact h
      · simp only [Pr.mk.injEq] at h; omega
theorem Ad.again {K : IntKind} {ps : List Pr} {rs : List Rr} (h : Ad K ps rs) {x : Nat} {r : Rr} (hr : rs[x]? = some r) (v : Value) (ys zs : List Int) (hy : r.xs = ys.map (Value.int K)) (hk : r.n = ys.length) (hl : zs.length ≤ ys.length) (hm : ∀ y, y ∈ zs ↔ y ∈ ys) : Ad K ps (rs.set x ⟨v, zs.length, zs.map (Value.int K)⟩) := by
  intro z q hq
  rw [List.getElem?_set] at hq
  by_cases hz : x = z
  · subst hz
    rw [if_pos rfl, if_pos (List.getElem?_eq_some_iff.1 hr).1] at hq
    rw [← Option.some.inj hq]
    obtain ⟨ws, h1, h2, h3, h4⟩ := h x r hr
    have hw : ws = ys := by
      rw [hy] at h2
      have hinj : ∀ (l m : List Int), l.map (Value.int K) = m.map (Value.int K) → l = m := fun l => by
        induction l with
        | nil => intro m hm; cases m with | nil => rfl | cons _ _ => cases hm
        | cons a l ih => intro m hm; cases m with
          | nil => cases hm
          | cons b m => simp only [List.map_cons, List.cons.injEq, Value.int.injEq, true_and] at hm; rw [hm.1, ih m hm.2]
      exact (hinj _ _ h2).symm
    subst hw
    exact ⟨zs, rfl, rfl, by omega, fun y => by rw [hm, h4]⟩
  · rw [if_neg hz] at hq
    exact h z q hq
theorem Ad.start {K : IntKind} (n : Nat) : Ad K [] (List.replicate n ⟨.slice none 0 0, 0, []⟩) := by
  intro x r hr
  have : r = ⟨.slice none 0 0, 0, []⟩ := List.eq_of_mem_replicate (List.mem_of_getElem? hr)
  subst this
  exact ⟨[], rfl, rfl, Nat.le_refl _, fun y => by simp⟩
theorem flat_mk (ys : List Int) : flat (ys.map Hn.mk) = ys.map (Value.int .i32) := by
  induction ys with
  | nil => rfl
  | cons y r ih => rw [List.map_cons, flat_cons, ih]; rfl
theorem flat_hns (xs : List Hn) : flat xs = (xs.map Hn.v).map (Value.int .i32) := by
  induction xs with
  | nil => rfl
  | cons y r ih => rw [flat_cons, ih]; rfl
theorem flat_ints (xs : List Int) : flat xs = xs.map (Value.int .i64) := by
  induction xs with
  | nil => rfl
  | cons y r ih => rw [flat_cons, ih]; rfl
/-- n lists with nothing in them -/
theorem She.made {e te : TypeId} {B : Nat} {w : World} {V : Value} {n : Nat} (h : w.ownsRow B te 1 V n (List.replicate n (.slice none 0 0))) : She e te 1 B w V (.slice none 0 0) (List.replicate n ⟨.slice none 0 0, 0, []⟩) [] := by
  refine ⟨by simpa using h, World.ownsRow_nil _ _ _ _, fun r hr => ?_, ?_, fun g _ h => by cases h⟩
  · rw [List.append_nil] at hr
    have : r = ⟨.slice none 0 0, 0, []⟩ := List.eq_of_mem_replicate hr
    subst this
    exact World.ownsRow_nil _ _ _ _
  · rw [List.append_nil]
    exact List.pairwise_replicate.2 (.inr (fun g h => by cases h))
theorem rep_made (z : Value) (n : Nat) : (madeCells #[z] (n * 1)).toList = List.replicate n z := by rw [Nat.mul_one]; exact toList_madeCells_one z n
theorem She.toRow {B : Nat} {te : TypeId} {w : World} {V U : Value} {rs us : List Rr} (h : She 21 te 1 B w V U rs us) {x : Nat} {r : Rr} (hr : rs[x]? = some r) {ys : List Int} (h1 : r.n = ys.length) (h2 : r.xs = ys.map (Value.int .i32)) : (r.v = .slice none 0 0 ∧ ys = []) ∨ ∃ g c, r.v = .slice (some ⟨g, 0, none⟩) r.n c ∧ r.n ≤ c ∧ Row B 21 g r.n c w (ys.map Hn.mk) := by
  have ho := h.get hr
  rcases ho.2 with ⟨hv, h0⟩ | ⟨g, c, cur, hv, hb, hh, hn, hc, hs, ht⟩
  · exact .inl ⟨hv, List.eq_nil_of_length_eq_zero (by omega)⟩
  · refine .inr ⟨g, c, hv, hn, ?_⟩
    rw [h2, hv, ← flat_mk] at ho
    exact ho
end Go.Proofs.Ytgijcbipnjmhgaa

namespace Go.Proofs.Ytgijcbipnjmhgaa
set_option linter.unusedVariables false
set_option linter.unusedSimpArgs false

/-- what can be come to -/
inductive Rch (ps : List Pr) : Nat → Nat → Prop
  | refl (x : Nat) : Rch ps x x
  | step {x y z : Nat} : (⟨(x : Int), (y : Int)⟩ : Pr) ∈ ps → Rch ps y z → Rch ps x z
theorem Rch.trans {ps : List Pr} {x y z : Nat} (h : Rch ps x y) (k : Rch ps y z) : Rch ps x z := by
  induction h with
  | refl => exact k
  | step e _ ih => exact .step e (ih k)
/-- how many are not marked -/
def unm (m : List Bool) : Nat := (m.filter fun b => !b).length
theorem unm_le : ∀ (m m' : List Bool), m'.length = m.length → (∀ y : Nat, m[y]? = some true → m'[y]? = some true) → unm m' ≤ unm m
  | [], [], _, _ => Nat.le_refl _
  | [], _ :: _, h, _ => by cases h
  | _ :: _, [], h, _ => by cases h
  | a :: m, b :: m', h, hm => by
    have ih := unm_le m m' (by simpa using h) (fun y hy => hm (y + 1) hy)
    have h0 := hm 0
    unfold unm at ih ⊢
    cases a <;> cases b <;> simp at h0 ⊢ <;> omega
theorem unm_set : ∀ (m : List Bool) (x : Nat), m[x]? = some false → unm (m.set x true) + 1 = unm m
  | [], _, h => by cases h
  | a :: m, 0, h => by simp at h; subst h; simp [unm]
  | a :: m, x + 1, h => by
    have := unm_set m x h
    unfold unm at this ⊢
    cases a <;> simp <;> omega
/-- a walk from marks m and told things t to marks m' and told things t': what is new is in P -/
structure Dq (ps : List Pr) (P : Nat → Prop) (m : List Bool) (t : List Nat) (m' : List Bool) (t' : List Nat) : Prop where
  len : m'.length = m.length
  mono : ∀ y : Nat, m[y]? = some true → m'[y]? = some true
  told : ∃ s : List Nat, t' = t ++ s ∧ s.Nodup ∧ (∀ y ∈ s, m[y]? = some false ∧ m'[y]? = some true) ∧ ∀ y : Nat, m'[y]? = some true → m[y]? = some true ∨ y ∈ s
  reach : ∀ y : Nat, m'[y]? = some true → m[y]? = some true ∨ P y
  closed : ∀ y y' : Nat, m[y]? = some false → m'[y]? = some true → (⟨(y : Int), (y' : Int)⟩ : Pr) ∈ ps → m'[y']? = some true
  cnt : t'.length + unm m' = t.length + unm m
theorem Dq.refl (ps : List Pr) (P : Nat → Prop) (m : List Bool) (t : List Nat) : Dq ps P m t m t :=
  ⟨rfl, fun _ h => h, ⟨[], by simp, List.nodup_nil, (fun y hy => by cases hy), fun y h => .inl h⟩, fun _ h => .inl h, (fun y y' h1 h2 => by rw [h1] at h2; cases h2), rfl⟩
theorem tf {m : List Bool} {y : Nat} (h : m[y]? = some true) (k : m[y]? = some false) : False := by rw [h] at k; cases k
theorem Dq.back {ps : List Pr} {P : Nat → Prop} {m m' : List Bool} {t t' : List Nat} (h : Dq ps P m t m' t') {y : Nat} (hy : m'[y]? = some false) : m[y]? = some false := by
  have hl : y < m.length := by have := (List.getElem?_eq_some_iff.1 hy).1; rw [h.len] at this; exact this
  cases hm : m[y] with
  | false => rw [List.getElem?_eq_getElem hl, hm]
  | true => exact (tf (h.mono y (by rw [List.getElem?_eq_getElem hl, hm])) hy).elim
theorem Dq.trans {ps : List Pr} {P P' : Nat → Prop} {m m1 m2 : List Bool} {t t1 t2 : List Nat} (h : Dq ps P m t m1 t1) (k : Dq ps P' m1 t1 m2 t2) (hP : ∀ y, P' y → P y) : Dq ps P m t m2 t2 := by
  obtain ⟨s1, hs1, hn1, hy1, hz1⟩ := h.told
  obtain ⟨s2, hs2, hn2, hy2, hz2⟩ := k.told
  refine ⟨k.len.trans h.len, fun y hy => k.mono y (h.mono y hy), ⟨s1 ++ s2, by rw [hs2, hs1, List.append_assoc], ?_, fun y hy => ?_, fun y hy => ?_⟩, fun y hy => ?_, fun y y' hy hy2' he => ?_, k.cnt.trans h.cnt⟩
  · refine List.nodup_append.2 ⟨hn1, hn2, fun a ha b hb hab => ?_⟩
    subst hab
    exact tf (hy1 a ha).2 (hy2 a hb).1
  · rcases List.mem_append.1 hy with hy | hy
    · exact ⟨(hy1 y hy).1, k.mono y (hy1 y hy).2⟩
    · exact ⟨h.back (hy2 y hy).1, (hy2 y hy).2⟩
  · rcases hz2 y hy with h2 | h2
    · rcases hz1 y h2 with h3 | h3
      · exact .inl h3
      · exact .inr (List.mem_append_left _ h3)
    · exact .inr (List.mem_append_right _ h2)
  · rcases k.reach y hy with h2 | h2
    · exact h.reach y h2
    · exact .inr (hP y h2)
  · have hl : y < m1.length := by have := (List.getElem?_eq_some_iff.1 hy).1; rw [← h.len] at this; exact this
    cases hm : m1[y] with
    | false => exact k.closed y y' (by rw [List.getElem?_eq_getElem hl, hm]) hy2' he
    | true => exact k.mono y' (h.closed y y' hy (by rw [List.getElem?_eq_getElem hl, hm]) he)
/-- a walk from a thing that was not met: marked, its own walked, told -/
theorem Dq.node {ps : List Pr} {x : Nat} {m m1 : List Bool} {t t1 : List Nat} (hx : m[x]? = some false) (h : Dq ps (Rch ps x) (m.set x true) t m1 t1) (hd : ∀ y' : Nat, (⟨(x : Int), (y' : Int)⟩ : Pr) ∈ ps → m1[y']? = some true) : Dq ps (Rch ps x) m t m1 (t1 ++ [x]) := by
  have hl := (List.getElem?_eq_some_iff.1 hx).1
  have hset : ∀ y : Nat, y ≠ x → (m.set x true)[y]? = m[y]? := fun y hy => by rw [List.getElem?_set, if_neg (fun e => hy e.symm)]
  have hsx : (m.set x true)[x]? = some true := by rw [List.getElem?_set, if_pos rfl, if_pos hl]
  obtain ⟨s, hs, hn, hy, hz⟩ := h.told
  refine ⟨by rw [h.len, List.length_set], fun y hy => h.mono y ?_, ⟨s ++ [x], by rw [hs, List.append_assoc], ?_, fun y hy' => ?_, fun y hy' => ?_⟩, fun y hy' => ?_, fun y y' hy1 hy2 he => ?_, by have h8 := h.cnt; have h9 := unm_set m x hx; rw [List.length_append]; simp; omega⟩
  · by_cases e : y = x
    · subst e; exact hsx
    · rw [hset y e]; exact hy
  · refine List.nodup_append.2 ⟨hn, by simp, fun a ha b hb hab => ?_⟩
    rw [List.mem_singleton] at hb
    subst hb
    subst hab
    exact tf hsx (hy _ ha).1
  · rcases List.mem_append.1 hy' with h1 | h1
    · refine ⟨?_, (hy y h1).2⟩
      have h2 := (hy y h1).1
      by_cases e : y = x
      · subst e; exact (tf hsx h2).elim
      · rw [hset y e] at h2; exact h2
    · rw [List.mem_singleton] at h1
      subst h1
      exact ⟨hx, h.mono _ hsx⟩
  · by_cases e : y = x
    · subst e; exact .inr (by simp)
    · rcases hz y hy' with h1 | h1
      · rw [hset y e] at h1; exact .inl h1
      · exact .inr (List.mem_append_left _ h1)
  · by_cases e : y = x
    · subst e; exact .inr (.refl _)
    · rcases h.reach y hy' with h1 | h1
      · rw [hset y e] at h1; exact .inl h1
      · exact .inr h1
  · by_cases e : y = x
    · subst e; exact hd y' he
    · exact h.closed y y' (by rw [hset y e]; exact hy1) hy2 he
theorem Dq.unm_le {ps : List Pr} {P : Nat → Prop} {m m' : List Bool} {t t' : List Nat} (h : Dq ps P m t m' t') : unm m' ≤ unm m := Go.Proofs.Ytgijcbipnjmhgaa.unm_le m m' h.len h.mono
end Go.Proofs.Ytgijcbipnjmhgaa

namespace Go.Proofs.Ytgijcbipnjmhgaa
open Go.ChangeShapes Go.WideShapes Go.ChangeAt Go.RowKit
set_option linter.unusedVariables false
set_option linter.unusedSimpArgs false

theorem infoPr : (Try.prog.info? 40).map (fun i => (i.zero, i.size, i.bytes)) = some (some (.agg #[.int .i64 0, .int .i64 0]), 2, 16) := by kernel_rfl
theorem pr_arr : Try.prog.underlying 40 = some (.array 2 3) := by kernel_rfl
theorem pr_cells : Try.prog.cellsOf 3 = 1 := by kernel_rfl
theorem pr_guard : Try.prog.eqGuardType Try.prog.depth 40 = false := by kernel_rfl
theorem pr_eqIn (w : World) (a b c d : Int) : (Op.equalIn 10000 40 (.agg #[.int .i64 a, .int .i64 b]) (.agg #[.int .i64 c, .int .i64 d])).run Try.prog w = .ok (a == c && b == d) w := by
  obtain ⟨i0, hi, hz0, hz1, hz2⟩ := info_parts infoInt
  rw [run_equalIn_array w 9999 _ _ pr_arr hi, pr_cells]
  by_cases h1 : a = c <;> by_cases h2 : b = d <;> simp [List.range, List.range.loop, Op.eqItems, go_sem, h1, h2]
theorem pr_guarded (w : World) (op : BinOp) (x y : Operand) (xs ys : Array Value) : (eqGuard op 40 x y (.agg xs) (.agg ys)).run Try.prog w = .ok () w := run_eqGuard_agg w _ _ x y xs ys pr_guard
def pmarks : List Pr := [⟨-7, 7⟩, ⟨7, -7⟩]

set_option maxRecDepth 1000000 in
set_option maxHeartbeats 1000000 in
theorem plent_any (a : Option Addr) (cap : Nat) (xs : List Pr) (w : World) (h : LiesA w a xs) (hn : a = none → xs.length = 0 ∧ cap = 0) (hl : xs.length * 16 ≤ 140737488351232) :
    Calls Try.prog 9 #[.slice a xs.length cap] w fun e w' => e = .returned (.slice (some ⟨w.heap.size, 0, none⟩) xs.length (xs.length + 2)) ∧ Below w.heap.size w w' ∧ Lies w' w.heap.size 0 (xs ++ pmarks) := by
  obtain ⟨i0, hi, hz0, hz1, hz2⟩ := info_parts infoPr
  have H : Hid (LiesA w a xs) := h
  have HN : Hid (a = none → xs.length = 0 ∧ cap = 0) := hn
  clear h hn
  go_enter Try.func9, Try.ntmps9
  go_wp2_with (at_make; refine wpList_make_own _ rfl _ _ 22 rfl w.heap.size 40 i0 (.agg #[.int .i64 0, .int .i64 0]) 2 Try.underlying22 hi hz0 hz1 _ _ _ (xs.length + 2) rfl rfl (by omega) ?b2 ?b3 (Nat.le_refl _) ?_)
  case b2 => rw [hz2]; omega
  case b3 => unfold maxLen; omega
  intro w0 hown0 hgrow0
  have hbel0 : Below w.heap.size w w0 := (Below.refl _ _).grown hgrow0 (Nat.le_refl _) (fun k h => by cases h)
  go_wp2_with (at_builtin; (refine wpList_append_fits_any _ rfl (.tmp 8) (.tmp 9) 22 rfl w.heap.size 40 i0 2 Try.underlying22 hi hz1 w.heap.size 0 (xs.length + 2) _ rfl hown0 _ xs.length _ (flat xs) rfl (flat_length xs) HN.out ?c1 (flat_oneCell xs) (by omega) ?_))
  case c1 =>
    intro ad had
    rcases H.out with h | ⟨b, o, hab, h⟩
    · intro j u hj; rw [h] at hj; simp [flat] at hj
    · rw [hab] at had; cases had; exact (h.below hbel0 h.1).flat
  intro w1 hown1 hgrow1
  have hbel1 : Below w.heap.size w w1 := hbel0.grown hgrow1 hbel0.size (fun k h => by cases h; exact Nat.le_refl _)
  clear hown0 hgrow0 hgrow1
  go_wp2_with (at_builtin; refine wpList_append_fits_any _ rfl (.tmp 11) (.tmp 14) 22 rfl w.heap.size 40 i0 2 Try.underlying22 hi hz1 w.heap.size xs.length (xs.length + 2) _ rfl (hown1.alloc _) _ 2 _ (flat pmarks) rfl rfl ?d0 ?d1 (flat_oneCell pmarks) (by omega) ?_)
  case d0 => intro h; cases h
  case d1 => intro ad had; cases had; exact cells_new w1 (flat pmarks) 40
  intro w2 hown2 hgrow2
  have hbel2 : Below w.heap.size w w2 := (hbel1.alloc hbel1.size _).grown hgrow2 (by simp; have := hbel1.size; omega) (fun k h => by cases h; exact Nat.le_refl _)
  clear hown1 hgrow2
  have hown3 : w2.ownsRow w.heap.size 40 (Rw.k Pr) (.slice (some ⟨w.heap.size, 0, none⟩) (xs.length + 2) (xs.length + 2)) (xs.length + 2) (flat (xs ++ pmarks)) := by rw [flat_append]; exact hown2
  have HL : Hid (Lies w2 w.heap.size 0 (xs ++ pmarks)) := Lies.own hown3
  clear hown2 hown3
  go_wp2
  go_ret
  exact ⟨rfl, hbel2, HL.out⟩
theorem pmark_cells {w : World} {g : Nat} {xs : List Pr} (h : Lies w g 0 (xs ++ pmarks)) :
    (w.cell? ⟨g, xs.length * 2, none⟩ = some (.int .i64 (-7)) ∧ w.cell? ⟨g, xs.length * 2 + 1, none⟩ = some (.int .i64 7)) ∧
    (w.cell? ⟨g, (xs.length + 1) * 2, none⟩ = some (.int .i64 7) ∧ w.cell? ⟨g, (xs.length + 1) * 2 + 1, none⟩ = some (.int .i64 (-7))) := by
  have h0 := h.pr (i := xs.length) (e := ⟨-7, 7⟩) (by rw [List.getElem?_append_right (Nat.le_refl _), Nat.sub_self]; rfl)
  have h1 := h.pr (i := xs.length + 1) (e := ⟨7, -7⟩) (by rw [List.getElem?_append_right (by omega), show xs.length + 1 - xs.length = 1 by omega]; rfl)
  simp only [Nat.zero_add] at h0 h1
  exact ⟨h0, h1⟩

set_option maxRecDepth 1000000 in
set_option maxHeartbeats 1000000 in
theorem pkept_any (g : Nat) (a : Option Addr) (cap : Nat) (xs : List Pr) (w : World) (hc : Lies w g 0 (xs ++ pmarks)) (h : LiesA w a xs) (hl : xs.length * 16 ≤ 140737488351232) :
    Calls Try.prog 13 #[.slice (some ⟨g, 0, none⟩) xs.length (xs.length + 2), .slice a xs.length cap] w fun e w' => e = .returned (.bool true) ∧ Below w.heap.size w w' := by
  have hg := hc.1
  have HC : Hid (Lies w g 0 (xs ++ pmarks)) := hc
  have H : Hid (LiesA w a xs) := h
  have hne : ((xs.length : Int) != (xs.length : Int)) = false := by simp
  clear hc h
  go_enter Try.func13, Try.ntmps13
  go_wp2
  go_loopg [14] xs.length (fun gk si wr => ∃ (k : Nat), gk = xs.length - k ∧ si = .int .i64 (k : Int) ∧ k ≤ xs.length ∧ Below w.heap.size w wr)
  case atStart => exact ⟨0, rfl, rfl, Nat.zero_le _, Below.refl _ _⟩
  case round =>
    obtain ⟨k, hgk, rfl, hk, hbel⟩ := hrel
    have HB : Hid (Below w.heap.size w wr) := hbel
    by_cases hkx : k < xs.length
    · have hkx' : (k : Int) < (xs.length : Int) := by omega
      obtain ⟨p, hp⟩ : ∃ p, xs[k]? = some p := ⟨_, List.getElem?_eq_getElem hkx⟩
      obtain ⟨b, o, ha, hLi⟩ : ∃ b o, a = some ⟨b, o, none⟩ ∧ Lies w b o xs := by
        rcases H.out with h | h
        · rw [h] at hkx; exact absurd hkx (Nat.not_lt_zero _)
        · exact h
      subst ha
      obtain ⟨X, F, hX, hF, onto⟩ := class_of (fun v => Below wr.heap.size wr v) (Below.refl _ wr)
      have HF : Hid (∀ y, Below wr.heap.size wr (F y)) := hF
      have HO : Hid (∀ v, Below wr.heap.size wr v → ∃ x, v = F x) := fun v h => by obtain ⟨x, hx⟩ := onto v h; exact ⟨x, hx.symm⟩
      have HAll : Hid (∀ q, Below w.heap.size w (F q)) := fun q => hbel.trans ((hF q).mono hbel.size)
      have d0 : ∀ q, (F q).cell? ⟨b, o + k * 2, none⟩ = some (.int .i64 p.a) := fun q => ((hLi.below (HAll.out q) hLi.1).pr hp).1
      have d1 : ∀ q, (F q).cell? ⟨b, o + k * 2 + 1, none⟩ = some (.int .i64 p.b) := fun q => ((hLi.below (HAll.out q) hLi.1).pr hp).2
      have hp2 : (xs ++ pmarks)[k]? = some p := by rw [List.getElem?_append_left hkx]; exact hp
      have e0 : ∀ q, (F q).cell? ⟨g, k * 2, none⟩ = some (.int .i64 p.a) := fun q => by have h9 := ((HC.out.below (HAll.out q) hg).pr hp2).1; rw [Nat.zero_add] at h9; exact h9
      have e1 : ∀ q, (F q).cell? ⟨g, k * 2 + 1, none⟩ = some (.int .i64 p.b) := fun q => by have h9 := ((HC.out.below (HAll.out q) hg).pr hp2).2; rw [Nat.zero_add] at h9; exact h9
      clear hp hLi hp2 hbel
      have qe : ∀ v, (Op.equalIn 10000 40 (.agg #[.int .i64 p.a, .int .i64 p.b]) (.agg #[.int .i64 p.a, .int .i64 p.b])).run Try.prog v = .ok true v := fun v => by rw [pr_eqIn]; simp
      have qg : ∀ op x y xs ys v, (eqGuard op 40 x y (.agg xs) (.agg ys)).run Try.prog v = .ok () v := fun op x y xs ys v => pr_guarded v op x y xs ys
      go_upto_region 6 with fail
      refine region_class F (by kernel_rfl) (by kernel_rfl) (by obtain ⟨x, hx⟩ := HO.out _ (Below.refl _ _).drew; exact ⟨x, hx.symm⟩) ?_
      repeat (go_big_quiet_step (fail))
      refine wpQuiet_nil ?_
      rintro _ ⟨nq, rfl⟩
      obtain ⟨z0, hz0⟩ : ∃ z, F nq = z := ⟨_, rfl⟩
      have HZ : Hid (Below w.heap.size w z0) := hz0 ▸ HAll.out nq
      rw [hz0]
      clear hz0 HF HO hF onto d0 d1 e0 e1 HAll
      go_wp2
      go_roundg (xs.length - (k + 1))
      case measure => omega
      case rel => exact ⟨k + 1, rfl, by go_num, by omega, HZ.out⟩
    · have hkx' : ¬ (k : Int) < (xs.length : Int) := by omega
      obtain ⟨⟨a0, a1⟩, b0, b1⟩ := pmark_cells (HC.out.below hbel hg)
      have q1 : ∀ v, (Op.equalIn 10000 40 (.agg #[.int .i64 (-7), .int .i64 7]) (.agg #[.int .i64 (-7), .int .i64 7])).run Try.prog v = .ok true v := fun v => by rw [pr_eqIn]; simp
      have q2 : ∀ v, (Op.equalIn 10000 40 (.agg #[.int .i64 7, .int .i64 (-7)]) (.agg #[.int .i64 7, .int .i64 (-7)])).run Try.prog v = .ok true v := fun v => by rw [pr_eqIn]; simp
      have qg : ∀ op x y xs ys v, (eqGuard op 40 x y (.agg xs) (.agg ys)).run Try.prog v = .ok () v := fun op x y xs ys v => pr_guarded v op x y xs ys
      go_wp2
      go_ret
      exact ⟨rfl, HB.out⟩
end Go.Proofs.Ytgijcbipnjmhgaa
