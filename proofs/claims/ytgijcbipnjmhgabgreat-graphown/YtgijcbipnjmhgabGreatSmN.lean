import Derived.Test.YtgijcbipnjmhgabGreatInfT
namespace Go.Proofs.YtgijcbipnjmhgabGreat
open Go.ChangeShapes Go.WideShapes Go.ChangeAt Go.RowKit
set_option linter.unusedVariables false
set_option linter.unusedSimpArgs false

/-- a row of numbers of which two change their places -/
def sw (xs : List Int) (i j : Nat) : List Int := (xs.set i xs[j]!).set j xs[i]!
theorem sw_len (xs : List Int) (i j : Nat) : (sw xs i j).length = xs.length := by simp [sw]
theorem get_set (xs : List Int) (i k : Nat) (x : Int) (hi : i < xs.length) : (xs.set i x)[k]! = if k = i then x else xs[k]! := by
  by_cases h : k = i
  · subst h; rw [if_pos rfl, getElem!_pos _ _ (by simpa using hi)]; simp
  · rw [if_neg h]
    simp only [getElem!_def, List.getElem?_set_ne (fun e => h e.symm)]
theorem sw_get (xs : List Int) {i j : Nat} (hi : i < xs.length) (hj : j < xs.length) (k : Nat) : (sw xs i j)[k]! = if k = j then xs[i]! else if k = i then xs[j]! else xs[k]! := by
  unfold sw
  rw [get_set _ _ _ _ (by simpa using hj), get_set _ _ _ _ hi]
theorem sw_perm (xs : List Int) {i j : Nat} (hi : i < xs.length) (hj : j < xs.length) : (sw xs i j).Perm xs := by
  unfold sw
  rw [getElem!_pos xs i hi, getElem!_pos xs j hj]
  exact List.set_set_perm hi hj
/-- a heap of the first n of a row -/
def Hpp (xs : List Int) (n : Nat) : Prop := ∀ i, 0 < i → i < n → xs[(i - 1) / 2]! ≤ xs[i]!
/-- .. but for j, which may be less than what lies above it -/
structure HpU (xs : List Int) (n j : Nat) : Prop where
  one : ∀ i, 0 < i → i < n → i ≠ j → xs[(i - 1) / 2]! ≤ xs[i]!
  two : ∀ i, 0 < i → i < n → (i - 1) / 2 = j → 0 < j → xs[(j - 1) / 2]! ≤ xs[i]!
/-- .. but for i, which may be greater than what lies below it -/
structure HpD (xs : List Int) (n i : Nat) : Prop where
  one : ∀ k, 0 < k → k < n → (k - 1) / 2 ≠ i → xs[(k - 1) / 2]! ≤ xs[k]!
  two : ∀ k, 0 < k → k < n → (k - 1) / 2 = i → 0 < i → xs[(i - 1) / 2]! ≤ xs[k]!
theorem HpU.done {xs : List Int} {n j : Nat} (h : HpU xs n j) (hj : j = 0 ∨ ¬ xs[j]! < xs[(j - 1) / 2]!) : Hpp xs n := by
  intro i h0 hn
  by_cases e : i = j
  · subst e
    rcases hj with e | e
    · omega
    · omega
  · exact h.one i h0 hn e
theorem HpU.up {xs : List Int} {n j : Nat} (h : HpU xs n j) (hn : n ≤ xs.length) (hj : j < n) (h0 : 0 < j) (hl : xs[j]! < xs[(j - 1) / 2]!) : HpU (sw xs ((j - 1) / 2) j) n ((j - 1) / 2) := by
  obtain ⟨p, hp⟩ : ∃ p, (j - 1) / 2 = p := ⟨_, rfl⟩
  rw [hp] at hl ⊢
  have hpj : p < j := by omega
  have G := sw_get xs (i := p) (j := j) (by omega) (by omega)
  refine ⟨fun i i0 i1 ip => ?_, fun i i0 i1 ip p0 => ?_⟩
  · rw [G, G]
    by_cases e1 : i = j
    · subst e1
      rw [if_pos rfl, hp, if_neg (by omega), if_pos rfl]
      omega
    · rw [if_neg e1, if_neg ip]
      by_cases e2 : (i - 1) / 2 = j
      · rw [if_pos e2]
        have := h.two i i0 i1 e2 h0
        rw [hp] at this
        exact this
      · rw [if_neg e2]
        by_cases e3 : (i - 1) / 2 = p
        · rw [if_pos e3]
          have := h.one i i0 i1 e1
          rw [e3] at this
          omega
        · rw [if_neg e3]
          exact h.one i i0 i1 e1
  · rw [G, G, if_neg (by omega), if_neg (by omega)]
    have hpp := h.one p p0 (by omega) (by omega)
    by_cases e1 : i = j
    · rw [if_pos e1]; exact hpp
    · rw [if_neg e1, if_neg (by omega)]
      have := h.one i i0 i1 e1
      rw [ip] at this
      omega
theorem HpD.done {xs : List Int} {n i : Nat} (h : HpD xs n i) (h1 : 2 * i + 1 < n → ¬ xs[2 * i + 1]! < xs[i]!) (h2 : 2 * i + 2 < n → ¬ xs[2 * i + 2]! < xs[i]!) : Hpp xs n := by
  intro k k0 kn
  by_cases e : (k - 1) / 2 = i
  · rw [e]
    rcases (by omega : k = 2 * i + 1 ∨ k = 2 * i + 2) with rfl | rfl
    · have := h1 kn; omega
    · have := h2 kn; omega
  · exact h.one k k0 kn e
theorem HpD.down {xs : List Int} {n i j : Nat} (h : HpD xs n i) (hn : n ≤ xs.length) (hj : j = 2 * i + 1 ∨ j = 2 * i + 2) (hjn : j < n) (hl : xs[j]! < xs[i]!) (hs : ∀ k, (k = 2 * i + 1 ∨ k = 2 * i + 2) → k < n → xs[j]! ≤ xs[k]!) : HpD (sw xs i j) n j := by
  have G := sw_get xs (i := i) (j := j) (by omega) (by omega)
  have hji : (j - 1) / 2 = i := by omega
  refine ⟨fun k k0 k1 kp => ?_, fun k k0 k1 kp j0 => ?_⟩
  · rw [G, G, if_neg kp]
    by_cases e1 : (k - 1) / 2 = i
    · rw [if_pos e1]
      by_cases e2 : k = j
      · rw [if_pos e2]; omega
      · rw [if_neg e2, if_neg (by omega)]
        exact hs k (by omega) k1
    · rw [if_neg e1, if_neg (by omega)]
      by_cases e3 : k = i
      · subst e3
        rw [if_pos rfl]
        exact h.two j (by omega) hjn hji k0
      · rw [if_neg e3]
        exact h.one k k0 k1 e1
  · rw [hji, G, G, if_neg (by omega), if_pos rfl, if_neg (by omega), if_neg (by omega)]
    have := h.one k k0 k1 (by omega)
    rw [kp] at this
    exact this
theorem Hpp.min {xs : List Int} {n : Nat} (h : Hpp xs n) : ∀ m i, i ≤ m → i < n → xs[0]! ≤ xs[i]!
  | m, 0, _, _ => Int.le_refl _
  | 0, i + 1, hm, _ => by omega
  | m + 1, i + 1, hm, hi => by
    have h1 := h (i + 1) (by omega) hi
    have h2 := Hpp.min h m ((i + 1 - 1) / 2) (by omega) (by omega)
    omega
/-- the first is taken out: the last comes in its place -/
theorem Hpp.pop {xs : List Int} {n : Nat} (h : Hpp xs (n + 1)) (hn : n + 1 = xs.length) : HpD (sw xs 0 n) n 0 := by
  have G := sw_get xs (i := 0) (j := n) (by omega) (by omega)
  refine ⟨fun k k0 k1 kp => ?_, fun k k0 k1 kp i0 => by omega⟩
  rw [G, G, if_neg (by omega), if_neg (by omega), if_neg (by omega), if_neg (by omega)]
  exact h k k0 (by omega)
theorem get_app (xs : List Int) (x : Int) {i : Nat} (hi : i < xs.length) : (xs ++ [x])[i]! = xs[i]! := by
  rw [getElem!_pos (xs ++ [x]) i (by simp; omega), getElem!_pos xs i hi, List.getElem_append_left hi]
/-- one more is put in -/
theorem Hpp.push {xs : List Int} (h : Hpp xs xs.length) (x : Int) : HpU (xs ++ [x]) (xs.length + 1) xs.length := by
  refine ⟨fun i i0 i1 ij => ?_, fun i i0 i1 ij j0 => by omega⟩
  rw [get_app _ _ (by omega), get_app _ _ (by omega)]
  exact h i i0 (by omega)
theorem Hpp.take {xs : List Int} {n : Nat} (h : Hpp xs n) (hn : n ≤ xs.length) : Hpp (xs.take n) n := by
  intro i i0 i1
  rw [getElem!_pos (xs.take n) i (by rw [List.length_take]; omega), getElem!_pos (xs.take n) ((i - 1) / 2) (by rw [List.length_take]; omega), List.getElem_take, List.getElem_take, ← getElem!_pos xs i (by omega), ← getElem!_pos xs ((i - 1) / 2) (by omega)]
  exact h i i0 i1
end Go.Proofs.YtgijcbipnjmhgabGreat

namespace Go.Proofs.YtgijcbipnjmhgabGreat
set_option linter.unusedVariables false
set_option linter.unusedSimpArgs false

/-- a thing that may stand behind these: it is none of them, and all that it needs is there -/
def Rdy (N : Nat → List Int) (n : Nat) (os : List Int) (x : Int) : Prop := 0 ≤ x ∧ x < (n : Int) ∧ x ∉ os ∧ ∀ z ∈ N x.toNat, z ∈ os
/-- always the lowest that may come -/
def Gd (N : Nat → List Int) (n : Nat) (os : List Int) : Prop := ∀ ps x qs, os = ps ++ x :: qs → Rdy N n ps x ∧ ∀ y, Rdy N n ps y → x ≤ y
theorem Gd.nil (N : Nat → List Int) (n : Nat) : Gd N n [] := fun ps x qs h => by simp at h
theorem Gd.snoc {N : Nat → List Int} {n : Nat} {os : List Int} {x : Int} (h : Gd N n os) (hx : Rdy N n os x) (hm : ∀ y, Rdy N n os y → x ≤ y) : Gd N n (os ++ [x]) := by
  intro ps y qs e
  rcases List.eq_nil_or_concat qs with rfl | ⟨qs', z, rfl⟩
  · obtain ⟨rfl, e2⟩ := List.append_inj' e rfl
    cases e2
    exact ⟨hx, hm⟩
  · rw [List.concat_eq_append, ← List.cons_append, ← List.append_assoc] at e
    obtain ⟨e1, -⟩ := List.append_inj' e rfl
    exact h ps y qs' e1
/-- the counting: how many of what a thing needs is not there yet; what waits is counted once more -/
structure Lu (N : Nat → List Int) (n : Nat) (os xs ms pend : List Int) : Prop where
  len : ms.length = n
  cnt : ∀ y : Nat, y < n → ms[y]! = (((N y).filter fun z => decide (z ∉ os)).length : Int) + if (y : Int) ∈ pend then 1 else 0
  rdy : ∀ y : Int, y ∈ xs ↔ (0 ≤ y ∧ y < (n : Int) ∧ y ∉ os ∧ ms[y.toNat]! = 0)
  nod : xs.Nodup
  nos : os.Nodup
  rng : ∀ y ∈ os, 0 ≤ y ∧ y < (n : Int)
  gd : Gd N n os
  don : ∀ y ∈ os, ∀ z ∈ N y.toNat, z ∈ os
  pnd : pend.Nodup ∧ ∀ y ∈ pend, 0 ≤ y ∧ y < (n : Int) ∧ y ∉ os
theorem Lu.is {N : Nat → List Int} {n : Nat} {os xs ms : List Int} (h : Lu N n os xs ms []) (x : Int) : x ∈ xs ↔ Rdy N n os x := by
  rw [h.rdy]
  constructor
  · rintro ⟨h0, h1, h2, h3⟩
    refine ⟨h0, h1, h2, fun z hz => ?_⟩
    rw [h.cnt x.toNat (by omega)] at h3
    simp only [List.not_mem_nil, if_false, Int.add_zero] at h3
    have h4 : ((N x.toNat).filter fun z => decide (z ∉ os)) = [] := List.eq_nil_of_length_eq_zero (by omega)
    have := List.filter_eq_nil_iff.1 h4 z hz
    simpa using this
  · rintro ⟨h0, h1, h2, h3⟩
    refine ⟨h0, h1, h2, ?_⟩
    rw [h.cnt x.toNat (by omega)]
    have h4 : ((N x.toNat).filter fun z => decide (z ∉ os)) = [] := List.filter_eq_nil_iff.2 fun z hz => by simpa using h3 z hz
    rw [h4]
    simp
theorem cnt_snoc (l os : List Int) (m : Int) (hl : l.Nodup) (hm : m ∉ os) : ((l.filter fun z => decide (z ∉ os)).length : Int) = ((l.filter fun z => decide (z ∉ os ++ [m])).length : Int) + if m ∈ l then 1 else 0 := by
  induction l with
  | nil => simp
  | cons a l ih =>
    have ih := ih (List.nodup_cons.1 hl).2
    have ha := (List.nodup_cons.1 hl).1
    by_cases e : a = m
    · subst e
      rw [if_neg ha] at ih
      have h1 : List.filter (fun z => decide (z ∉ os)) (a :: l) = a :: List.filter (fun z => decide (z ∉ os)) l := by rw [List.filter_cons_of_pos]; simpa using hm
      have h2 : List.filter (fun z => decide (z ∉ os ++ [a])) (a :: l) = List.filter (fun z => decide (z ∉ os ++ [a])) l := by rw [List.filter_cons_of_neg]; simp
      rw [h1, h2, if_pos List.mem_cons_self, List.length_cons]
      omega
    · have e3 : (m ∈ a :: l) ↔ m ∈ l := by simp [show ¬ m = a from fun e2 => e e2.symm]
      by_cases e2 : a ∈ os
      · have h1 : List.filter (fun z => decide (z ∉ os)) (a :: l) = List.filter (fun z => decide (z ∉ os)) l := by rw [List.filter_cons_of_neg]; simpa using e2
        have h2 : List.filter (fun z => decide (z ∉ os ++ [m])) (a :: l) = List.filter (fun z => decide (z ∉ os ++ [m])) l := by rw [List.filter_cons_of_neg]; simp [e2]
        rw [h1, h2, ih]
        by_cases h3 : m ∈ l
        · rw [if_pos h3, if_pos (e3.2 h3)]
        · rw [if_neg h3, if_neg (fun h => h3 (e3.1 h))]
      · have h1 : List.filter (fun z => decide (z ∉ os)) (a :: l) = a :: List.filter (fun z => decide (z ∉ os)) l := by rw [List.filter_cons_of_pos]; simpa using e2
        have h2 : List.filter (fun z => decide (z ∉ os ++ [m])) (a :: l) = a :: List.filter (fun z => decide (z ∉ os ++ [m])) l := by rw [List.filter_cons_of_pos]; simp [e2, e]
        rw [h1, h2, List.length_cons, List.length_cons]
        by_cases h3 : m ∈ l
        · rw [if_pos h3] at ih; rw [if_pos (e3.2 h3)]; omega
        · rw [if_neg h3] at ih; rw [if_neg (fun h => h3 (e3.1 h))]; omega
/-- the lists of both ways belong together -/
structure Bth (N D : Nat → List Int) (n : Nat) : Prop where
  nn : ∀ x, x < n → (N x).Nodup
  dn : ∀ x, x < n → (D x).Nodup
  nr : ∀ x, x < n → ∀ z ∈ N x, 0 ≤ z ∧ z < (n : Int)
  iff : ∀ x, x < n → ∀ y, y ∈ D x ↔ 0 ≤ y ∧ y < (n : Int) ∧ (x : Int) ∈ N y.toNat
theorem Lu.pop {N D : Nat → List Int} {n : Nat} {os xs ms ys : List Int} {m : Int} (hb : Bth N D n) (h : Lu N n os xs ms []) (hp : (m :: ys).Perm xs) (hm : ∀ x ∈ xs, m ≤ x) : Lu N n (os ++ [m]) ys ms (D m.toNat) := by
  have hmx : m ∈ xs := hp.mem_iff.1 List.mem_cons_self
  have hR := (h.is m).1 hmx
  obtain ⟨h0, h1, h2, h3⟩ := hR
  have hmn : m.toNat < n := by omega
  have hmc : ((m.toNat : Nat) : Int) = m := by omega
  have hnd : (m :: ys).Nodup := hp.nodup_iff.2 h.nod
  refine ⟨h.len, fun y hy => ?_, fun y => ?_, (List.nodup_cons.1 hnd).2, ?_, ?_, h.gd.snoc ⟨h0, h1, h2, h3⟩ (fun y hy => hm y ((h.is y).2 hy)), ?_, hb.dn _ hmn, fun y hy => ?_⟩
  · rw [h.cnt y hy, cnt_snoc (N y) os m (hb.nn y hy) h2]
    have : (y : Int) ∈ D m.toNat ↔ m ∈ N y := by
      rw [hb.iff _ hmn, hmc]
      constructor
      · rintro ⟨-, -, h⟩; simpa using h
      · intro h; exact ⟨by omega, by omega, by simpa using h⟩
    simp only [List.not_mem_nil, if_false, Int.add_zero, this]
  · have h4 : y ∈ ys ↔ y ∈ xs ∧ y ≠ m := by
      rw [← hp.mem_iff]
      constructor
      · intro hy; exact ⟨List.mem_cons_of_mem _ hy, fun e => (List.nodup_cons.1 hnd).1 (e ▸ hy)⟩
      · rintro ⟨hy, hne⟩; exact (List.mem_cons.1 hy).resolve_left hne
    rw [h4, h.rdy y]
    simp only [List.mem_append, List.mem_singleton, not_or]
    constructor
    · rintro ⟨⟨a, b, c, d⟩, e⟩; exact ⟨a, b, ⟨c, e⟩, d⟩
    · rintro ⟨a, b, ⟨c, e⟩, d⟩; exact ⟨⟨a, b, c, d⟩, e⟩
  · rw [List.nodup_append]
    exact ⟨h.nos, by simp, fun a ha b hb2 e => h2 (by rw [List.mem_singleton] at hb2; rw [← hb2, ← e]; exact ha)⟩
  · intro y hy
    rcases List.mem_append.1 hy with hy | hy
    · exact h.rng y hy
    · rw [List.mem_singleton] at hy; subst hy; exact ⟨h0, h1⟩
  · intro y hy z hz
    rcases List.mem_append.1 hy with hy | hy
    · exact List.mem_append_left _ (h.don y hy z hz)
    · rw [List.mem_singleton] at hy; subst hy; exact List.mem_append_left _ (h3 z hz)
  · obtain ⟨a, b, c⟩ := (hb.iff _ hmn y).1 hy
    rw [hmc] at c
    refine ⟨a, b, fun hy2 => ?_⟩
    rcases List.mem_append.1 hy2 with hy2 | hy2
    · exact h2 (h.don y hy2 m c)
    · rw [List.mem_singleton] at hy2; subst hy2; exact h2 (h3 y c)
theorem Lu.pos {N : Nat → List Int} {n y : Nat} {os xs ms p : List Int} (h : Lu N n os xs ms ((y : Int) :: p)) : y < n ∧ (1 : Int) ≤ ms[y]! ∧ ms[y]! ≤ ((N y).length : Int) + 1 := by
  have h1 := h.pnd.2 (y : Int) List.mem_cons_self
  refine ⟨by omega, ?_, ?_⟩
  · rw [h.cnt y (by omega), if_pos List.mem_cons_self]; omega
  · rw [h.cnt y (by omega), if_pos List.mem_cons_self]; have := List.length_filter_le (fun z => decide (z ∉ os)) (N y); omega
theorem Lu.dec {N : Nat → List Int} {n y : Nat} {os xs ys ms p : List Int} (h : Lu N n os xs ms ((y : Int) :: p)) (hy : if ms[y]! - 1 = 0 then ys.Perm (xs ++ [(y : Int)]) else ys = xs) : Lu N n os ys (ms.set y (ms[y]! - 1)) p := by
  obtain ⟨hyn, hp1, -⟩ := h.pos
  have hl : y < ms.length := by rw [h.len]; exact hyn
  have hyp : (y : Int) ∉ p := (List.nodup_cons.1 h.pnd.1).1
  have hyo := (h.pnd.2 (y : Int) List.mem_cons_self).2.2
  have hyx : (y : Int) ∉ xs := fun hx => by
    have := ((h.rdy _).1 hx).2.2.2
    rw [show ((y : Int)).toNat = y by omega] at this
    omega
  have hmem : ∀ z : Int, z ∈ ys ↔ z ∈ xs ∨ (z = (y : Int) ∧ ms[y]! - 1 = 0) := fun z => by
    by_cases e : ms[y]! - 1 = 0
    · rw [if_pos e] at hy
      rw [hy.mem_iff, List.mem_append, List.mem_singleton]
      exact ⟨fun h => h.imp id (fun h => ⟨h, e⟩), fun h => h.imp id (fun h => h.1)⟩
    · rw [if_neg e] at hy
      subst hy
      exact ⟨.inl, fun h => h.elim id (fun h => absurd h.2 e)⟩
  refine ⟨by rw [List.length_set]; exact h.len, fun z hz => ?_, fun z => ?_, ?_, h.nos, h.rng, h.gd, h.don, (List.nodup_cons.1 h.pnd.1).2, fun z hz => h.pnd.2 z (List.mem_cons_of_mem _ hz)⟩
  · rw [get_set ms y z _ hl]
    by_cases e : z = y
    · subst e
      rw [if_pos rfl, h.cnt z hz, if_pos List.mem_cons_self, if_neg hyp]; omega
    · rw [if_neg e, h.cnt z hz]
      have : (z : Int) ∈ (y : Int) :: p ↔ (z : Int) ∈ p := by rw [List.mem_cons]; constructor; (intro h; exact h.resolve_left (by omega)); exact .inr
      simp only [this]
  · rw [hmem, h.rdy z, get_set ms y z.toNat _ hl]
    by_cases e : z = (y : Int)
    · subst e
      rw [show ((y : Int)).toNat = y by omega, if_pos rfl]
      constructor
      · rintro (⟨a, b, c, d⟩ | ⟨-, d⟩)
        · omega
        · exact ⟨by omega, by omega, hyo, d⟩
      · rintro ⟨a, b, c, d⟩; exact .inr ⟨rfl, d⟩
    · constructor
      · rintro (⟨a, b, c, d⟩ | ⟨d, -⟩)
        · exact ⟨a, b, c, by rw [if_neg (by omega)]; exact d⟩
        · exact absurd d e
      · rintro ⟨a, b, c, d⟩; rw [if_neg (by omega)] at d; exact .inl ⟨a, b, c, d⟩
  · by_cases e : ms[y]! - 1 = 0
    · rw [if_pos e] at hy
      rw [hy.nodup_iff, List.nodup_append]
      exact ⟨h.nod, by simp, fun a ha b hb2 e2 => hyx (by rw [List.mem_singleton] at hb2; rw [← hb2, ← e2]; exact ha)⟩
    · rw [if_neg e] at hy; subst hy; exact h.nod
theorem nodup_le0 : ∀ (n : Nat) (l : List Nat), l.Nodup → (∀ x ∈ l, x < n) → l.length ≤ n
  | 0, l, _, h => by
    cases l with
    | nil => exact Nat.le_refl _
    | cons a l => have := h a List.mem_cons_self; omega
  | n + 1, l, hn, h => by
    have h1 := nodup_le0 n (l.erase n) (hn.erase n) (fun x hx => by
      have h2 := h x (List.mem_of_mem_erase hx)
      have h3 : x ≠ n := ((List.Nodup.mem_erase_iff hn).1 hx).1
      omega)
    by_cases e : n ∈ l
    · rw [List.length_erase_of_mem e] at h1; omega
    · rw [List.erase_of_not_mem e] at h1; omega
/-- numbers below n, each once: no more than n -/
theorem nodup_le {n : Nat} {os : List Int} (h : os.Nodup) (hr : ∀ y ∈ os, 0 ≤ y ∧ y < (n : Int)) : os.length ≤ n := by
  have h1 : (os.map Int.toNat).Nodup := by
    unfold List.Nodup
    rw [List.pairwise_map]
    refine h.imp_of_mem ?_
    intro a b ha hb hne e
    have := hr a ha
    have := hr b hb
    omega
  have h2 : (os.map Int.toNat) ⊆ List.range n := fun x hx => by
    obtain ⟨y, hy, rfl⟩ := List.mem_map.1 hx
    have := hr y hy
    exact List.mem_range.2 (by omega)
  have h3 := nodup_le0 n _ h1 (fun x hx => List.mem_range.1 (h2 hx))
  rwa [List.length_map] at h3
theorem Lu.few {N : Nat → List Int} {n : Nat} {os xs ms p : List Int} (h : Lu N n os xs ms p) : os.length ≤ n ∧ xs.length ≤ n ∧ os.length + xs.length ≤ n := by
  have h3 : (os ++ xs).length ≤ n := nodup_le (by
    rw [List.nodup_append]
    exact ⟨h.nos, h.nod, fun a ha b hb e => ((h.rdy b).1 hb).2.2.1 (e ▸ ha)⟩) (fun y hy => by
    rcases List.mem_append.1 hy with hy | hy
    · exact h.rng y hy
    · have := (h.rdy y).1 hy; exact ⟨this.1, this.2.1⟩)
  rw [List.length_append] at h3
  omega
/-- the first round: all lists' lengths, and those that need nothing -/
structure Lf (N : Nat → List Int) (n k : Nat) (xs ms : List Int) : Prop where
  len : ms.length = n
  cnt : ∀ y : Nat, y < k → ms[y]! = ((N y).length : Int)
  rdy : ∀ y : Int, y ∈ xs ↔ (0 ≤ y ∧ y < (k : Int) ∧ N y.toNat = [])
  up : xs.Pairwise (· < ·)
theorem Lf.step {N : Nat → List Int} {n k : Nat} {xs ys ms : List Int} (h : Lf N n k xs ms) (hk : k < n) (hy : if (N k).length = 0 then ys = xs ++ [(k : Int)] else ys = xs) : Lf N n (k + 1) ys (ms.set k ((N k).length : Int)) := by
  refine ⟨by rw [List.length_set]; exact h.len, fun y hy2 => ?_, fun y => ?_, ?_⟩
  · rw [get_set ms k y _ (by rw [h.len]; exact hk)]
    by_cases e : y = k
    · subst e; rw [if_pos rfl]
    · rw [if_neg e]; exact h.cnt y (by omega)
  · by_cases e : (N k).length = 0
    · rw [if_pos e] at hy
      subst hy
      rw [List.mem_append, h.rdy, List.mem_singleton]
      constructor
      · rintro (⟨a, b, c⟩ | rfl)
        · exact ⟨a, by omega, c⟩
        · exact ⟨by omega, by omega, by rw [show ((k : Int)).toNat = k by omega]; exact List.eq_nil_of_length_eq_zero e⟩
      · rintro ⟨a, b, c⟩
        by_cases e2 : y = (k : Int)
        · exact .inr e2
        · exact .inl ⟨a, by omega, c⟩
    · rw [if_neg e] at hy
      subst hy
      rw [h.rdy]
      constructor
      · rintro ⟨a, b, c⟩; exact ⟨a, by omega, c⟩
      · rintro ⟨a, b, c⟩
        refine ⟨a, ?_, c⟩
        by_cases e2 : y = (k : Int)
        · subst e2
          rw [show ((k : Int)).toNat = k by omega] at c
          exact absurd (by rw [c]; rfl) e
        · omega
  · by_cases e : (N k).length = 0
    · rw [if_pos e] at hy
      subst hy
      rw [List.pairwise_append]
      refine ⟨h.up, by simp, fun a ha b hb => ?_⟩
      rw [List.mem_singleton] at hb
      subst hb
      exact ((h.rdy a).1 ha).2.1
    · rw [if_neg e] at hy; subst hy; exact h.up
theorem Lf.start (N : Nat → List Int) (n : Nat) : Lf N n 0 [] (List.replicate n 0) := ⟨by simp, fun y hy => by omega, fun y => ⟨fun h => by simp at h, fun h => by omega⟩, List.Pairwise.nil⟩
theorem Lf.few {N : Nat → List Int} {n k : Nat} {xs ms : List Int} (h : Lf N n k xs ms) : xs.length ≤ k :=
  nodup_le (h.up.imp (fun h => by omega)) (fun y hy => ⟨((h.rdy y).1 hy).1, ((h.rdy y).1 hy).2.1⟩)
theorem Lf.lu {N : Nat → List Int} {n : Nat} {xs ms : List Int} (h : Lf N n n xs ms) : Lu N n [] xs ms [] := by
  refine ⟨h.len, fun y hy => ?_, fun y => ?_, h.up.imp (fun h => by omega), List.Pairwise.nil, fun y hy => by simp at hy, Gd.nil N n, fun y hy => by simp at hy, List.Pairwise.nil, fun y hy => by simp at hy⟩
  · rw [h.cnt y hy, List.filter_eq_self.2 (fun a _ => by simp)]; simp
  · rw [h.rdy y]
    constructor
    · rintro ⟨a, b, c⟩; exact ⟨a, b, by simp, by rw [h.cnt y.toNat (by omega), c]; rfl⟩
    · rintro ⟨a, b, -, c⟩
      rw [h.cnt y.toNat (by omega)] at c
      exact ⟨a, b, List.eq_nil_of_length_eq_zero (by omega)⟩
theorem Lf.heap {N : Nat → List Int} {n k : Nat} {xs ms : List Int} (h : Lf N n k xs ms) : Hpp xs xs.length := by
  intro i h0 hi
  have := List.pairwise_iff_getElem.1 h.up ((i - 1) / 2) i (by omega) hi (by omega)
  rw [getElem!_pos xs ((i - 1) / 2) (by omega), getElem!_pos xs i hi]
  omega
/-- the end: none may come any more -/
theorem Lu.stop {N : Nat → List Int} {n : Nat} {os ms : List Int} (h : Lu N n os [] ms []) (x : Int) : ¬ Rdy N n os x := fun hx => by
  have := (h.is x).2 hx
  simp at this
end Go.Proofs.YtgijcbipnjmhgabGreat

namespace Go.Proofs.YtgijcbipnjmhgabGreat
open Go.ChangeShapes Go.WideShapes Go.ChangeAt Go.RowKit
set_option linter.unusedVariables false

set_option maxHeartbeats 400000 in
theorem same_intsD (a1 a2 : Option Addr) (c1 c2 : Nat) (xs : List Int) (w : World) (h1 : LiesA w a1 xs) (h2 : LiesA w a2 xs) (hl : xs.length ≤ maxLen) :
    Calls Tryz.prog 13 #[.slice a1 xs.length c1, .slice a2 xs.length c2] w fun e w' => e = .returned (.bool true) ∧ ∃ m, w' = w.drewN m := by
  unfold maxLen at hl
  rcases h1 with rfl | ⟨b1, o1, rfl, h1⟩
  · rw [List.length_nil]
    go_enter Tryz.func13, Tryz.ntmps13
    go_wp2
    refine wp_loop_rounds 1 ?_
    rw [rounds_succ]
    go_wp2
    go_ret
    exact ⟨rfl, 0, rfl⟩
  rcases h2 with rfl | ⟨b2, o2, rfl, h2⟩
  · rw [List.length_nil]
    go_enter Tryz.func13, Tryz.ntmps13
    go_wp2
    refine wp_loop_rounds 1 ?_
    rw [rounds_succ]
    go_wp2
    go_ret
    exact ⟨rfl, 0, rfl⟩
  have H1 : Hid (Lies w b1 o1 xs) := h1
  have H2 : Hid (Lies w b2 o2 xs) := h2
  have hb1 : b1 < w.heap.size := h1.1
  have hb2 : b2 < w.heap.size := h2.1
  clear h1 h2
  have hne : ((xs.length : Int) != (xs.length : Int)) = false := by simp
  go_enter Tryz.func13, Tryz.ntmps13
  go_wp2
  go_loopw [13] (fun i wr => ∃ k m : Nat, k ≤ xs.length ∧ i = .int .i64 k ∧ wr = w.drewN m) (fun i _ => xs.length - (intOf i).toNat)
  case atStart => exact ⟨0, 0, Nat.zero_le _, rfl, rfl⟩
  case round =>
    obtain ⟨k, m, hk, rfl, hwr⟩ := hrel
    have hbel : Below w.heap.size w wr := by rw [hwr]; exact ⟨rfl, rfl, rfl, Nat.le_refl _, fun _ _ => rfl⟩
    have HWR : Hid (wr = w.drewN m) := hwr
    clear hwr
    have hsz := hbel.size
    by_cases hlt : k < xs.length
    · obtain ⟨e, he⟩ : ∃ e, xs[k]? = some e := ⟨_, List.getElem?_eq_getElem hlt⟩
      have c0 := H1.out.int hbel he
      have d0 := H2.out.int hbel he
      clear he
      have hlt' : (k : Int) < (xs.length : Int) := by omega
      go_wp2
      go_quiet (fail)
      go_wp2
      go_roundw
      case rel => exact ⟨k + 1, m + nq, by omega, by go_num, by rw [HWR.out]; simp⟩
      case measure => simp [intOf]; omega
    · go_wp2
      go_ret
      exact ⟨rfl, m, HWR.out⟩
end Go.Proofs.YtgijcbipnjmhgabGreat

namespace Go.Proofs.YtgijcbipnjmhgabGreat
open Go.ChangeShapes Go.WideShapes Go.ChangeAt Go.RowKit
set_option linter.unusedVariables false

set_option maxHeartbeats 400000 in
theorem same_tree (a1 a2 : Option Addr) (c1 c2 : Nat) (xs : List Nd) (w : World) (h1 : LiesA w a1 xs) (h2 : LiesA w a2 xs) (hl : xs.length ≤ maxLen) :
    Calls Tryz.prog 63 #[.agg #[.slice a1 xs.length c1], .agg #[.slice a2 xs.length c2]] w fun e w' => e = .returned (.bool true) ∧ Below w.heap.size w w' := by
  unfold maxLen at hl
  rcases h1 with rfl | ⟨b1, o1, rfl, h1⟩
  · rw [List.length_nil]
    go_enter Tryz.func63, Tryz.ntmps63
    go_wp2
    refine wp_loop_rounds 1 ?_
    rw [rounds_succ]
    go_wp2
    go_ret
    exact ⟨rfl, (box2 (Below.refl _ _)).1⟩
  rcases h2 with rfl | ⟨b2, o2, rfl, h2⟩
  · rw [List.length_nil]
    go_enter Tryz.func63, Tryz.ntmps63
    go_wp2
    refine wp_loop_rounds 1 ?_
    rw [rounds_succ]
    go_wp2
    go_ret
    exact ⟨rfl, (box2 (Below.refl _ _)).1⟩
  have H1 : Hid (Lies w b1 o1 xs) := h1
  have H2 : Hid (Lies w b2 o2 xs) := h2
  have hb1 : b1 < w.heap.size := h1.1
  have hb2 : b2 < w.heap.size := h2.1
  clear h1 h2
  have hne : ((xs.length : Int) != (xs.length : Int)) = false := by simp
  go_enter Tryz.func63, Tryz.ntmps63
  go_wp2
  go_loopw [16] (fun i wr => ∃ k : Nat, k ≤ xs.length ∧ i = .int .i64 k ∧ Below (w.heap.size + 2) ((w.alloc (.cells #[.slice (some ⟨b1, o1, none⟩) xs.length c1] 104)).alloc (.cells #[.slice (some ⟨b2, o2, none⟩) xs.length c2] 104)) wr) (fun i _ => xs.length - (intOf i).toNat)
  case atStart => exact ⟨0, Nat.zero_le _, rfl, Below.refl _ _⟩
  case round =>
    obtain ⟨k, hk, rfl, hbig⟩ := hrel
    obtain ⟨hbel, x1, x2, x3⟩ := box2 hbig
    have HB : Hid (Below (w.heap.size + 2) ((w.alloc (.cells #[.slice (some ⟨b1, o1, none⟩) xs.length c1] 104)).alloc (.cells #[.slice (some ⟨b2, o2, none⟩) xs.length c2] 104)) wr) := hbig
    clear hbig
    have hsz := hbel.size
    by_cases hlt : k < xs.length
    · obtain ⟨e, he⟩ : ∃ e, xs[k]? = some e := ⟨_, List.getElem?_eq_getElem hlt⟩
      obtain ⟨c0, c1, c2, c3⟩ := H1.out.nd hbel he
      obtain ⟨d0, d1, d2, d3⟩ := H2.out.nd hbel he
      clear he
      have hlt' : (k : Int) < (xs.length : Int) := by omega
      go_wp2
      go_quiet (fail)
      go_wp2
      go_roundw
      case rel => exact ⟨k + 1, by omega, by go_num, by (repeat (with_reducible refine below_drewN ?_ _)); exact HB.out⟩
      case measure => simp [intOf]; omega
    · go_wp2
      go_ret
      exact ⟨rfl, by go_grown⟩
end Go.Proofs.YtgijcbipnjmhgabGreat
