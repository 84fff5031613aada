import Derived.Test.YtgijcbipnjmhgabSmI
namespace Go.Proofs.Ytgijcbipnjmhgab
set_option linter.unusedVariables false
set_option linter.unusedSimpArgs false

/-- a thing that may stand behind these: it is none of them, and all that it needs is there -/
def Rdy (N : Nat → List Int) (n : Nat) (os : List Int) (x : Int) : Prop := 0 ≤ x ∧ x < (n : Int) ∧ x ∉ os ∧ ∀ z ∈ N x.toNat, z ∈ os
/-- always the lowest that may come -/
def Gd (N : Nat → List Int) (n : Nat) (os : List Int) : Prop := ∀ ps x qs, os = ps ++ x :: qs → Rdy N n ps x ∧ ∀ y, Rdy N n ps y → x ≤ y
theorem Gd.nil (N : Nat → List Int) (n : Nat) : Gd N n [] := fun ps x qs h => by simp at h
theorem Gd.snoc {N : Nat → List Int} {n : Nat} {os : List Int} {x : Int} (h : Gd N n os) (hx : Rdy N n os x) (hm : ∀ y, Rdy N n os y → x ≤ y) : Gd N n (os ++ [x]) := by
  intro ps y qs e
  rcases List.eq_nil_or_concat qs with rfl | ⟨qs', z, rfl⟩
  · obtain ⟨rfl, e2⟩ := List.append_inj' e rfl
    cases e2
    exact ⟨hx, hm⟩
  · rw [List.concat_eq_append, ← List.cons_append, ← List.append_assoc] at e
    obtain ⟨e1, -⟩ := List.append_inj' e rfl
    exact h ps y qs' e1
/-- the counting: how many of what a thing needs is not there yet; what waits is counted once more -/
structure Lu (N : Nat → List Int) (n : Nat) (os xs ms pend : List Int) : Prop where
  len : ms.length = n
  cnt : ∀ y : Nat, y < n → ms[y]! = (((N y).filter fun z => decide (z ∉ os)).length : Int) + if (y : Int) ∈ pend then 1 else 0
  rdy : ∀ y : Int, y ∈ xs ↔ (0 ≤ y ∧ y < (n : Int) ∧ y ∉ os ∧ ms[y.toNat]! = 0)
  nod : xs.Nodup
  nos : os.Nodup
  rng : ∀ y ∈ os, 0 ≤ y ∧ y < (n : Int)
  gd : Gd N n os
  don : ∀ y ∈ os, ∀ z ∈ N y.toNat, z ∈ os
  pnd : pend.Nodup ∧ ∀ y ∈ pend, 0 ≤ y ∧ y < (n : Int) ∧ y ∉ os
theorem Lu.is {N : Nat → List Int} {n : Nat} {os xs ms : List Int} (h : Lu N n os xs ms []) (x : Int) : x ∈ xs ↔ Rdy N n os x := by
  rw [h.rdy]
  constructor
  · rintro ⟨h0, h1, h2, h3⟩
    refine ⟨h0, h1, h2, fun z hz => ?_⟩
    rw [h.cnt x.toNat (by omega)] at h3
    simp only [List.not_mem_nil, if_false, Int.add_zero] at h3
    have h4 : ((N x.toNat).filter fun z => decide (z ∉ os)) = [] := List.eq_nil_of_length_eq_zero (by omega)
    have := List.filter_eq_nil_iff.1 h4 z hz
    simpa using this
  · rintro ⟨h0, h1, h2, h3⟩
    refine ⟨h0, h1, h2, ?_⟩
    rw [h.cnt x.toNat (by omega)]
    have h4 : ((N x.toNat).filter fun z => decide (z ∉ os)) = [] := List.filter_eq_nil_iff.2 fun z hz => by simpa using h3 z hz
    rw [h4]
    simp
theorem cnt_snoc (l os : List Int) (m : Int) (hl : l.Nodup) (hm : m ∉ os) : ((l.filter fun z => decide (z ∉ os)).length : Int) = ((l.filter fun z => decide (z ∉ os ++ [m])).length : Int) + if m ∈ l then 1 else 0 := by
  induction l with
  | nil => simp
  | cons a l ih =>
    have ih := ih (List.nodup_cons.1 hl).2
    have ha := (List.nodup_cons.1 hl).1
    by_cases e : a = m
    · subst e
      rw [if_neg ha] at ih
      have h1 : List.filter (fun z => decide (z ∉ os)) (a :: l) = a :: List.filter (fun z => decide (z ∉ os)) l := by rw [List.filter_cons_of_pos]; simpa using hm
      have h2 : List.filter (fun z => decide (z ∉ os ++ [a])) (a :: l) = List.filter (fun z => decide (z ∉ os ++ [a])) l := by rw [List.filter_cons_of_neg]; simp
      rw [h1, h2, if_pos List.mem_cons_self, List.length_cons]
      omega
    · have e3 : (m ∈ a :: l) ↔ m ∈ l := by simp [show ¬ m = a from fun e2 => e e2.symm]
      by_cases e2 : a ∈ os
      · have h1 : List.filter (fun z => decide (z ∉ os)) (a :: l) = List.filter (fun z => decide (z ∉ os)) l := by rw [List.filter_cons_of_neg]; simpa using e2
        have h2 : List.filter (fun z => decide (z ∉ os ++ [m])) (a :: l) = List.filter (fun z => decide (z ∉ os ++ [m])) l := by rw [List.filter_cons_of_neg]; simp [e2]
        rw [h1, h2, ih]
        by_cases h3 : m ∈ l
        · rw [if_pos h3, if_pos (e3.2 h3)]
        · rw [if_neg h3, if_neg (fun h => h3 (e3.1 h))]
      · have h1 : List.filter (fun z => decide (z ∉ os)) (a :: l) = a :: List.filter (fun z => decide (z ∉ os)) l := by rw [List.filter_cons_of_pos]; simpa using e2
        have h2 : List.filter (fun z => decide (z ∉ os ++ [m])) (a :: l) = a :: List.filter (fun z => decide (z ∉ os ++ [m])) l := by rw [List.filter_cons_of_pos]; simp [e2, e]
        rw [h1, h2, List.length_cons, List.length_cons]
        by_cases h3 : m ∈ l
        · rw [if_pos h3] at ih; rw [if_pos (e3.2 h3)]; omega
        · rw [if_neg h3] at ih; rw [if_neg (fun h => h3 (e3.1 h))]; omega
/-- the lists of both ways belong together -/
structure Bth (N D : Nat → List Int) (n : Nat) : Prop where
  nn : ∀ x, x < n → (N x).Nodup
  dn : ∀ x, x < n → (D x).Nodup
  nr : ∀ x, x < n → ∀ z ∈ N x, 0 ≤ z ∧ z < (n : Int)
  iff : ∀ x, x < n → ∀ y, y ∈ D x ↔ 0 ≤ y ∧ y < (n : Int) ∧ (x : Int) ∈ N y.toNat
theorem Lu.pop {N D : Nat → List Int} {n : Nat} {os xs ms ys : List Int} {m : Int} (hb : Bth N D n) (h : Lu N n os xs ms []) (hp : (m :: ys).Perm xs) (hm : ∀ x ∈ xs, m ≤ x) : Lu N n (os ++ [m]) ys ms (D m.toNat) := by
  have hmx : m ∈ xs := hp.mem_iff.1 List.mem_cons_self
  have hR := (h.is m).1 hmx
  obtain ⟨h0, h1, h2, h3⟩ := hR
  have hmn : m.toNat < n := by omega
  have hmc : ((m.toNat : Nat) : Int) = m := by omega
  have hnd : (m :: ys).Nodup := hp.nodup_iff.2 h.nod
  refine ⟨h.len, fun y hy => ?_, fun y => ?_, (List.nodup_cons.1 hnd).2, ?_, ?_, h.gd.snoc ⟨h0, h1, h2, h3⟩ (fun y hy => hm y ((h.is y).2 hy)), ?_, hb.dn _ hmn, fun y hy => ?_⟩
  · rw [h.cnt y hy, cnt_snoc (N y) os m (hb.nn y hy) h2]
    have : (y : Int) ∈ D m.toNat ↔ m ∈ N y := by
      rw [hb.iff _ hmn, hmc]
      constructor
      · rintro ⟨-, -, h⟩; simpa using h
      · intro h; exact ⟨by omega, by omega, by simpa using h⟩
    simp only [List.not_mem_nil, if_false, Int.add_zero, this]
  · have h4 : y ∈ ys ↔ y ∈ xs ∧ y ≠ m := by
      rw [← hp.mem_iff]
      constructor
      · intro hy; exact ⟨List.mem_cons_of_mem _ hy, fun e => (List.nodup_cons.1 hnd).1 (e ▸ hy)⟩
      · rintro ⟨hy, hne⟩; exact (List.mem_cons.1 hy).resolve_left hne
    rw [h4, h.rdy y]
    simp only [List.mem_append, List.mem_singleton, not_or]
    constructor
    · rintro ⟨⟨a, b, c, d⟩, e⟩; exact ⟨a, b, ⟨c, e⟩, d⟩
    · rintro ⟨a, b, ⟨c, e⟩, d⟩; exact ⟨⟨a, b, c, d⟩, e⟩
  · rw [List.nodup_append]
    exact ⟨h.nos, by simp, fun a ha b hb2 e => h2 (by rw [List.mem_singleton] at hb2; rw [← hb2, ← e]; exact ha)⟩
  · intro y hy
    rcases List.mem_append.1 hy with hy | hy
    · exact h.rng y hy
    · rw [List.mem_singleton] at hy; subst hy; exact ⟨h0, h1⟩
  · intro y hy z hz
    rcases List.mem_append.1 hy with hy | hy
    · exact List.mem_append_left _ (h.don y hy z hz)
    · rw [List.mem_singleton] at hy; subst hy; exact List.mem_append_left _ (h3 z hz)
  · obtain ⟨a, b, c⟩ := (hb.iff _ hmn y).1 hy
    rw [hmc] at c
    refine ⟨a, b, fun hy2 => ?_⟩
    rcases List.mem_append.1 hy2 with hy2 | hy2
    · exact h2 (h.don y hy2 m c)
    · rw [List.mem_singleton] at hy2; subst hy2; exact h2 (h3 y c)
theorem Lu.pos {N : Nat → List Int} {n y : Nat} {os xs ms p : List Int} (h : Lu N n os xs ms ((y : Int) :: p)) : y < n ∧ (1 : Int) ≤ ms[y]! ∧ ms[y]! ≤ ((N y).length : Int) + 1 := by
  have h1 := h.pnd.2 (y : Int) List.mem_cons_self
  refine ⟨by omega, ?_, ?_⟩
  · rw [h.cnt y (by omega), if_pos List.mem_cons_self]; omega
  · rw [h.cnt y (by omega), if_pos List.mem_cons_self]; have := List.length_filter_le (fun z => decide (z ∉ os)) (N y); omega
theorem Lu.dec {N : Nat → List Int} {n y : Nat} {os xs ys ms p : List Int} (h : Lu N n os xs ms ((y : Int) :: p)) (hy : if ms[y]! - 1 = 0 then ys.Perm (xs ++ [(y : Int)]) else ys = xs) : Lu N n os ys (ms.set y (ms[y]! - 1)) p := by
  obtain ⟨hyn, hp1, -⟩ := h.pos
  have hl : y < ms.length := by rw [h.len]; exact hyn
  have hyp : (y : Int) ∉ p := (List.nodup_cons.1 h.pnd.1).1
  have hyo := (h.pnd.2 (y : Int) List.mem_cons_self).2.2
  have hyx : (y : Int) ∉ xs := fun hx => by
    have := ((h.rdy _).1 hx).2.2.2
    rw [show ((y : Int)).toNat = y by omega] at this
    omega
  have hmem : ∀ z : Int, z ∈ ys ↔ z ∈ xs ∨ (z = (y : Int) ∧ ms[y]! - 1 = 0) := fun z => by
    by_cases e : ms[y]! - 1 = 0
    · rw [if_pos e] at hy
      rw [hy.mem_iff, List.mem_append, List.mem_singleton]
      exact ⟨fun h => h.imp id (fun h => ⟨h, e⟩), fun h => h.imp id (fun h => h.1)⟩
    · rw [if_neg e] at hy
      subst hy
      exact ⟨.inl, fun h => h.elim id (fun h => absurd h.2 e)⟩
  refine ⟨by rw [List.length_set]; exact h.len, fun z hz => ?_, fun z => ?_, ?_, h.nos, h.rng, h.gd, h.don, (List.nodup_cons.1 h.pnd.1).2, fun z hz => h.pnd.2 z (List.mem_cons_of_mem _ hz)⟩
  · rw [get_set ms y z _ hl]
    by_cases e : z = y
    · subst e
      rw [if_pos rfl, h.cnt z hz, if_pos List.mem_cons_self, if_neg hyp]; omega
    · rw [if_neg e, h.cnt z hz]
      have : (z : Int) ∈ (y : Int) :: p ↔ (z : Int) ∈ p := by rw [List.mem_cons]; constructor; (intro h; exact h.resolve_left (by omega)); exact .inr
      simp only [this]
  · rw [hmem, h.rdy z, get_set ms y z.toNat _ hl]
    by_cases e : z = (y : Int)
    · subst e
      rw [show ((y : Int)).toNat = y by omega, if_pos rfl]
      constructor
      · rintro (⟨a, b, c, d⟩ | ⟨-, d⟩)
        · omega
        · exact ⟨by omega, by omega, hyo, d⟩
      · rintro ⟨a, b, c, d⟩; exact .inr ⟨rfl, d⟩
    · constructor
      · rintro (⟨a, b, c, d⟩ | ⟨d, -⟩)
        · exact ⟨a, b, c, by rw [if_neg (by omega)]; exact d⟩
        · exact absurd d e
      · rintro ⟨a, b, c, d⟩; rw [if_neg (by omega)] at d; exact .inl ⟨a, b, c, d⟩
  · by_cases e : ms[y]! - 1 = 0
    · rw [if_pos e] at hy
      rw [hy.nodup_iff, List.nodup_append]
      exact ⟨h.nod, by simp, fun a ha b hb2 e2 => hyx (by rw [List.mem_singleton] at hb2; rw [← hb2, ← e2]; exact ha)⟩
    · rw [if_neg e] at hy; subst hy; exact h.nod
theorem nodup_le0 : ∀ (n : Nat) (l : List Nat), l.Nodup → (∀ x ∈ l, x < n) → l.length ≤ n
  | 0, l, _, h => by
    cases l with
    | nil => exact Nat.le_refl _
    | cons a l => have := h a List.mem_cons_self; omega
  | n + 1, l, hn, h => by
    have h1 := nodup_le0 n (l.erase n) (hn.erase n) (fun x hx => by
      have h2 := h x (List.mem_of_mem_erase hx)
      have h3 : x ≠ n := ((List.Nodup.mem_erase_iff hn).1 hx).1
      omega)
    by_cases e : n ∈ l
    · rw [List.length_erase_of_mem e] at h1; omega
    · rw [List.erase_of_not_mem e] at h1; omega
/-- numbers below n, each once: no more than n -/
theorem nodup_le {n : Nat} {os : List Int} (h : os.Nodup) (hr : ∀ y ∈ os, 0 ≤ y ∧ y < (n : Int)) : os.length ≤ n := by
  have h1 : (os.map Int.toNat).Nodup := by
    unfold List.Nodup
    rw [List.pairwise_map]
    refine h.imp_of_mem ?_
    intro a b ha hb hne e
    have := hr a ha
    have := hr b hb
    omega
  have h2 : (os.map Int.toNat) ⊆ List.range n := fun x hx => by
    obtain ⟨y, hy, rfl⟩ := List.mem_map.1 hx
    have := hr y hy
    exact List.mem_range.2 (by omega)
  have h3 := nodup_le0 n _ h1 (fun x hx => List.mem_range.1 (h2 hx))
  rwa [List.length_map] at h3
theorem Lu.few {N : Nat → List Int} {n : Nat} {os xs ms p : List Int} (h : Lu N n os xs ms p) : os.length ≤ n ∧ xs.length ≤ n ∧ os.length + xs.length ≤ n := by
  have h3 : (os ++ xs).length ≤ n := nodup_le (by
    rw [List.nodup_append]
    exact ⟨h.nos, h.nod, fun a ha b hb e => ((h.rdy b).1 hb).2.2.1 (e ▸ ha)⟩) (fun y hy => by
    rcases List.mem_append.1 hy with hy | hy
    · exact h.rng y hy
    · have := (h.rdy y).1 hy; exact ⟨this.1, this.2.1⟩)
  rw [List.length_append] at h3
  omega
/-- the first round: all lists' lengths, and those that need nothing -/
structure Lf (N : Nat → List Int) (n k : Nat) (xs ms : List Int) : Prop where
  len : ms.length = n
  cnt : ∀ y : Nat, y < k → ms[y]! = ((N y).length : Int)
  rdy : ∀ y : Int, y ∈ xs ↔ (0 ≤ y ∧ y < (k : Int) ∧ N y.toNat = [])
  up : xs.Pairwise (· < ·)
theorem Lf.step {N : Nat → List Int} {n k : Nat} {xs ys ms : List Int} (h : Lf N n k xs ms) (hk : k < n) (hy : if (N k).length = 0 then ys = xs ++ [(k : Int)] else ys = xs) : Lf N n (k + 1) ys (ms.set k ((N k).length : Int)) := by
  refine ⟨by rw [List.length_set]; exact h.len, fun y hy2 => ?_, fun y => ?_, ?_⟩
  · rw [get_set ms k y _ (by rw [h.len]; exact hk)]
    by_cases e : y = k
    · subst e; rw [if_pos rfl]
    · rw [if_neg e]; exact h.cnt y (by omega)
  · by_cases e : (N k).length = 0
    · rw [if_pos e] at hy
      subst hy
      rw [List.mem_append, h.rdy, List.mem_singleton]
      constructor
      · rintro (⟨a, b, c⟩ | rfl)
        · exact ⟨a, by omega, c⟩
        · exact ⟨by omega, by omega, by rw [show ((k : Int)).toNat = k by omega]; exact List.eq_nil_of_length_eq_zero e⟩
      · rintro ⟨a, b, c⟩
        by_cases e2 : y = (k : Int)
        · exact .inr e2
        · exact .inl ⟨a, by omega, c⟩
    · rw [if_neg e] at hy
      subst hy
      rw [h.rdy]
      constructor
      · rintro ⟨a, b, c⟩; exact ⟨a, by omega, c⟩
      · rintro ⟨a, b, c⟩
        refine ⟨a, ?_, c⟩
        by_cases e2 : y = (k : Int)
        · subst e2
          rw [show ((k : Int)).toNat = k by omega] at c
          exact absurd (by rw [c]; rfl) e
        · omega
  · by_cases e : (N k).length = 0
    · rw [if_pos e] at hy
      subst hy
      rw [List.pairwise_append]
      refine ⟨h.up, by simp, fun a ha b hb => ?_⟩
      rw [List.mem_singleton] at hb
      subst hb
      exact ((h.rdy a).1 ha).2.1
    · rw [if_neg e] at hy; subst hy; exact h.up
theorem Lf.start (N : Nat → List Int) (n : Nat) : Lf N n 0 [] (List.replicate n 0) := ⟨by simp, fun y hy => by omega, fun y => ⟨fun h => by simp at h, fun h => by omega⟩, List.Pairwise.nil⟩
theorem Lf.few {N : Nat → List Int} {n k : Nat} {xs ms : List Int} (h : Lf N n k xs ms) : xs.length ≤ k :=
  nodup_le (h.up.imp (fun h => by omega)) (fun y hy => ⟨((h.rdy y).1 hy).1, ((h.rdy y).1 hy).2.1⟩)
theorem Lf.lu {N : Nat → List Int} {n : Nat} {xs ms : List Int} (h : Lf N n n xs ms) : Lu N n [] xs ms [] := by
  refine ⟨h.len, fun y hy => ?_, fun y => ?_, h.up.imp (fun h => by omega), List.Pairwise.nil, fun y hy => by simp at hy, Gd.nil N n, fun y hy => by simp at hy, List.Pairwise.nil, fun y hy => by simp at hy⟩
  · rw [h.cnt y hy, List.filter_eq_self.2 (fun a _ => by simp)]; simp
  · rw [h.rdy y]
    constructor
    · rintro ⟨a, b, c⟩; exact ⟨a, b, by simp, by rw [h.cnt y.toNat (by omega), c]; rfl⟩
    · rintro ⟨a, b, -, c⟩
      rw [h.cnt y.toNat (by omega)] at c
      exact ⟨a, b, List.eq_nil_of_length_eq_zero (by omega)⟩
theorem Lf.heap {N : Nat → List Int} {n k : Nat} {xs ms : List Int} (h : Lf N n k xs ms) : Hpp xs xs.length := by
  intro i h0 hi
  have := List.pairwise_iff_getElem.1 h.up ((i - 1) / 2) i (by omega) hi (by omega)
  rw [getElem!_pos xs ((i - 1) / 2) (by omega), getElem!_pos xs i hi]
  omega
/-- the end: none may come any more -/
theorem Lu.stop {N : Nat → List Int} {n : Nat} {os ms : List Int} (h : Lu N n os [] ms []) (x : Int) : ¬ Rdy N n os x := fun hx => by
  have := (h.is x).2 hx
  simp at this
end Go.Proofs.Ytgijcbipnjmhgab
