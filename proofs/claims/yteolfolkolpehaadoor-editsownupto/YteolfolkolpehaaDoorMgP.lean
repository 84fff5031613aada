import Derived.Test.YteolfolkolpehaaDoorCoS
namespace Go.Proofs.YteolfolkolpehaaDoor
open Go.ChangeShapes Go.WideShapes Go.ChangeAt Go.RowKit
set_option linter.unusedVariables false

/-- do two edits of two lists meet? -/
def meet (a b : Ed) : Bool :=
  if a.f = a.t ∧ b.f = b.t then decide (a.f = b.f)
  else if a.f = a.t then decide (b.f < a.f) && decide (a.f < b.t)
  else if b.f = b.t then decide (a.f < b.f) && decide (b.f < a.t)
  else decide (a.f < b.t) && decide (b.f < a.t)
/-- the reference's order -/
def rah (a b : Ed) : Bool := decide (a.f < b.f) || (decide (a.f = b.f) && decide (a.t < b.t))

/-- one behind the other, apart -/
def Apt (x y : Ed) : Prop := x.t ≤ y.f ∧ ¬ (x.f = x.t ∧ y.f = y.t ∧ x.f = y.f)

theorem apt_meet {x y : Ed} (h : Apt x y) : meet x y = false ∧ meet y x = false := by
  obtain ⟨h1, h2⟩ := h
  unfold meet
  refine ⟨?_, ?_⟩ <;> (split <;> (try split) <;> (try split) <;> simp <;> omega)

theorem mts_apt {x y : Ed} (h : mts x y = false) : Apt x y := by
  unfold mts ins at h
  simp at h
  refine ⟨by omega, fun ⟨h1, h2, h3⟩ => h.2 h1 h2 h3⟩

theorem apt_trans {x y z : Ed} (hy : y.f ≤ y.t) (h1 : Apt x y) (h2 : Apt y z) : Apt x z := by
  obtain ⟨a1, a2⟩ := h1
  obtain ⟨b1, b2⟩ := h2
  refine ⟨by omega, fun ⟨c1, c2, c3⟩ => a2 ⟨c1, by omega, by omega⟩⟩

theorem mtg_apt : ∀ {l : List Ed}, (∀ e ∈ l, e.f ≤ e.t) → mtg l = false → l.Pairwise Apt
  | [], _, _ => List.Pairwise.nil
  | [x], _, _ => by simp
  | x :: y :: r, hl, h => by
    unfold mtg at h
    simp only [Bool.or_eq_false_iff] at h
    have ih := mtg_apt (l := y :: r) (fun e he => hl e (List.mem_cons_of_mem _ he)) h.2
    have hxy := mts_apt h.1
    refine List.pairwise_cons.2 ⟨fun z hz => ?_, ih⟩
    rcases List.mem_cons.1 hz with rfl | hz
    · exact hxy
    · exact apt_trans (hl y (by simp)) hxy ((List.pairwise_cons.1 ih).1 z hz)

theorem sbs_mem : ∀ (a b : List Ed) (e : Ed), e ∈ sbs a b ↔ e ∈ a ∨ e ∈ b
  | [], b, e => by rw [sbs_left]; simp
  | x :: a, [], e => by rw [sbs_right]; simp
  | x :: a, y :: b, e => by
    cases h : ahd y x with
    | true => rw [sbs_b h, List.mem_cons, sbs_mem (x :: a) b e, List.mem_cons (a := e) (b := y) (l := b)]; exact or_left_comm
    | false => rw [sbs_a h, List.mem_cons, sbs_mem a (y :: b) e]; simp only [List.mem_cons, or_assoc]
termination_by a b => a.length + b.length

theorem sbs_pairs : ∀ {a b : List Ed}, (sbs a b).Pairwise Apt → ∀ x ∈ a, ∀ y ∈ b, Apt x y ∨ Apt y x
  | [], _, _, x, hx, _, _ => by cases hx
  | _ :: _, [], _, _, _, y, hy => by cases hy
  | x :: a, y :: b, h, u, hu, v, hv => by
    cases hh : ahd y x with
    | true =>
      rw [sbs_b hh] at h
      obtain ⟨h1, h2⟩ := List.pairwise_cons.1 h
      rcases List.mem_cons.1 hv with rfl | hv
      · exact .inr (h1 u ((sbs_mem _ _ _).2 (.inl hu)))
      · exact sbs_pairs h2 u hu v hv
    | false =>
      rw [sbs_a hh] at h
      obtain ⟨h1, h2⟩ := List.pairwise_cons.1 h
      rcases List.mem_cons.1 hu with rfl | hu
      · exact .inl (h1 v ((sbs_mem _ _ _).2 (.inr hv)))
      · exact sbs_pairs h2 u hu v hv
termination_by a b => a.length + b.length

/-- a pair that meets is found among neighbours -/
theorem meet_found {a b : List Ed} (ha : ∀ e ∈ a, e.f ≤ e.t) (hb : ∀ e ∈ b, e.f ≤ e.t) {x y : Ed} (hx : x ∈ a) (hy : y ∈ b) (h : meet x y = true) : mtg (sbs a b) = true := by
  cases hm : mtg (sbs a b) with
  | true => rfl
  | false =>
    exfalso
    have hp := mtg_apt (fun e he => by rcases (sbs_mem _ _ _).1 he with h | h; exact ha e h; exact hb e h) hm
    rcases sbs_pairs hp x hx y hy with h' | h'
    · rw [(apt_meet h').1] at h; cases h
    · rw [(apt_meet h').2] at h; cases h

/-- where they don't meet, both take the same -/
theorem pick_same {x y : Ed} (hx : x.f ≤ x.t) (hy : y.f ≤ y.t) (h : meet x y = false) : rah x y = !ahd y x := by
  have e : (rah x y = true ↔ ahd y x = false) := by
    unfold meet at h
    unfold rah ahd ins
    by_cases h1 : x.f = x.t <;> by_cases h2 : y.f = y.t
    · rw [if_pos ⟨h1, h2⟩] at h; simp at h ⊢; omega
    · rw [if_neg (by omega), if_pos h1] at h; simp at h ⊢; omega
    · rw [if_neg (by omega), if_neg h1, if_pos h2] at h; simp at h ⊢; omega
    · rw [if_neg (by omega), if_neg h1, if_neg h2] at h; simp at h ⊢; omega
  cases h1 : rah x y <;> cases h2 : ahd y x <;> simp_all

/-- neighbours of two lists that don't meet, in their order -/
theorem mts_of_meet {x y : Ed} (hx : x.f ≤ x.t) (hy : y.f ≤ y.t) (h : meet x y = false ∨ meet y x = false) (ho : x.f < y.f ∨ (x.f = y.f ∧ (x.f = x.t ∨ y.f ≠ y.t))) : mts x y = false := by
  apply mts_no
  unfold meet at h
  intro hc
  by_cases h1 : x.f = x.t <;> by_cases h2 : y.f = y.t
  · rw [if_pos ⟨h1, h2⟩, if_pos ⟨h2, h1⟩] at h; simp at h; omega
  · rw [if_neg (by omega), if_pos h1, if_neg (by omega), if_neg h2, if_pos h1] at h; simp at h; omega
  · rw [if_neg (by omega), if_neg h1, if_pos h2, if_neg (by omega), if_pos h2] at h; simp at h; omega
  · rw [if_neg (by omega), if_neg h1, if_neg h2, if_neg (by omega), if_neg h2, if_neg h1] at h; simp at h; omega

/-- touching neighbours made one -/
def jn1 : Ed → List Ed → List Ed
  | c, [] => [c]
  | c, e :: r => if e.f = c.t then jn1 ⟨c.f, e.t, c.s ++ e.s⟩ r else c :: jn1 e r
def jn : List Ed → List Ed
  | [] => []
  | e :: r => jn1 e r

theorem jn1_len : ∀ (l : List Ed) (c : Ed), (jn1 c l).length ≤ l.length + 1
  | [], _ => by simp [jn1]
  | e :: r, c => by
    unfold jn1
    split
    · have := jn1_len r ⟨c.f, e.t, c.s ++ e.s⟩; simp; omega
    · have := jn1_len r e; simp; omega
theorem jn_len (l : List Ed) : (jn l).length ≤ l.length := by
  cases l with
  | nil => simp [jn]
  | cons e r => have := jn1_len r e; simpa [jn] using this

/-- of a list that is right: each edit's ends, and neighbours -/
structure Good (l : List Ed) : Prop where
  le : ∀ (i : Nat) (e : Ed), l[i]? = some e → e.f ≤ e.t
  lt : ∀ (i : Nat) (e n : Ed), l[i]? = some e → l[i + 1]? = some n → e.t < n.f

theorem good_tail {e : Ed} {r : List Ed} (h : Good (e :: r)) : Good r :=
  ⟨fun i x hx => h.le (i + 1) x (by simpa using hx), fun i x n hx hn => h.lt (i + 1) x n (by simpa using hx) (by simpa using hn)⟩

theorem good_of {size L : Int} : ∀ {l : List Ed}, chk size L l = 0 → Good l
  | [], _ => ⟨fun i e h => by simp at h, fun i e n h => by simp at h⟩
  | e :: r, h => by
    obtain ⟨h1, h2, h3, h4, h5⟩ := chk_cons h
    have ih := good_of h5
    refine ⟨fun i x hx => ?_, fun i x n hx hn => ?_⟩
    · cases i with
      | zero => simp at hx; subst hx; exact h2
      | succ i => exact ih.le i x (by simpa using hx)
    · cases i with
      | zero =>
        simp at hx hn
        subst hx
        cases r with
        | nil => simp at hn
        | cons y t =>
          simp at hn
          subst hn
          have := (chk_cons h5).2.2.2.1
          omega
      | succ i => exact ih.lt i x n (by simpa using hx) (by simpa using hn)

theorem good_mem {l : List Ed} (h : Good l) : ∀ e ∈ l, e.f ≤ e.t := fun e he => by
  obtain ⟨i, hi⟩ := List.getElem?_of_mem he
  exact h.le i e hi

theorem mts_good {l : List Ed} (h : Good l) {i : Nat} {e n : Ed} (he : l[i]? = some e) (hn : l[i + 1]? = some n) : mts e n = false := by
  have h1 := h.le i e he
  have h2 := h.lt i e n he hn
  apply mts_no
  omega

theorem mtg_snoc : ∀ {p : List Ed} {e n : Ed}, mtg (p ++ [e]) = false → mts e n = false → mtg (p ++ [e] ++ [n]) = false
  | [], e, n, _, h => by simp [mtg, h]
  | [x], e, n, h, h2 => by simp [mtg] at h ⊢; exact ⟨h, h2⟩
  | x :: y :: r, e, n, h, h2 => by
    have h' : mts x y = false ∧ mtg (y :: r ++ [e]) = false := by simpa [mtg] using h
    have ih := mtg_snoc (p := y :: r) h'.2 h2
    simp only [List.cons_append] at ih ⊢
    rw [mtg, h'.1, Bool.false_or]
    exact ih

theorem get_drop {l : List Ed} {i : Nat} {e : Ed} (h : l[i]? = some e) : l.drop i = e :: l.drop (i + 1) := by
  obtain ⟨hk, he⟩ := List.getElem?_eq_some_iff.1 h
  rw [List.drop_eq_getElem_cons hk, he]

/-- where the reference stands: so many of both lists are taken, none of which meet -/
structure RSt (a b : List Ed) (i k : Nat) (all : List Ed) : Prop where
  hi : i ≤ a.length
  hk : k ≤ b.length
  len : all.length = i + k
  cat : all ++ sbs (a.drop i) (b.drop k) = sbs a b
  no : mtg all = false
  na : ∀ (p : List Ed) (e x : Ed), all = p ++ [e] → a[i]? = some x → (∀ (j : Nat) (y : Ed), k = j + 1 → b[j]? = some y → meet x y = false) → mts e x = false
  nb : ∀ (p : List Ed) (e y : Ed), all = p ++ [e] → b[k]? = some y → (∀ (j : Nat) (x : Ed), i = j + 1 → a[j]? = some x → meet x y = false) → mts e y = false

theorem rst_start (a b : List Ed) : RSt a b 0 0 [] :=
  ⟨Nat.zero_le _, Nat.zero_le _, rfl, by simp, rfl, fun p e x h => by simp at h, fun p e y h => by simp at h⟩

theorem snoc_inj {p q : List Ed} {e x : Ed} (h : p ++ [x] = q ++ [e]) : e = x := by
  have := congrArg List.getLast? h
  simp at this
  exact this.symm

theorem mtg_more {all : List Ed} {n : Ed} (h : mtg all = false) (hn : ∀ p e, all = p ++ [e] → mts e n = false) : mtg (all ++ [n]) = false := by
  rcases List.eq_nil_or_concat all with rfl | ⟨p, e, rfl⟩
  · rfl
  · simp only [List.concat_eq_append] at *
    exact mtg_snoc h (hn p e rfl)

/-- the next of the first list -/
theorem rst_a {a b : List Ed} {i k : Nat} {all : List Ed} (ha : Good a) (hb : Good b) (h : RSt a b i k all) {x : Ed} (hx : a[i]? = some x) (hq : ∀ y, b[k]? = some y → ahd y x = false)
    (hm : ∀ (j : Nat) (y : Ed), k = j + 1 → b[j]? = some y → meet x y = false) : RSt a b (i + 1) k (all ++ [x]) := by
  have hi : i < a.length := (List.getElem?_eq_some_iff.1 hx).1
  refine ⟨hi, h.hk, by simp [h.len]; omega, ?_, mtg_more h.no (fun p e he => h.na p e x he hx hm), ?_, ?_⟩
  · rw [← h.cat, get_drop hx]
    cases hy : b[k]? with
    | none =>
      have : b.drop k = [] := List.drop_eq_nil_iff.2 (List.getElem?_eq_none_iff.1 hy)
      rw [this, sbs_right, sbs_right]; simp
    | some y => rw [get_drop hy, sbs_a (hq y hy)]; simp
  · intro p e x' he hx' _
    rw [snoc_inj he]
    exact mts_good ha hx hx'
  · intro p e y he hy hmy
    rw [snoc_inj he]
    have h1 := ha.le i x hx
    have h2 := hb.le k y hy
    refine mts_of_meet h1 h2 (.inl (hmy i x rfl hx)) ?_
    have := hq y hy
    unfold ahd ins at this
    simp at this
    omega

/-- .. of the second -/
theorem rst_b {a b : List Ed} {i k : Nat} {all : List Ed} (ha : Good a) (hb : Good b) (h : RSt a b i k all) {y : Ed} (hy : b[k]? = some y) (hq : ∀ x, a[i]? = some x → ahd y x = true)
    (hm : ∀ (j : Nat) (x : Ed), i = j + 1 → a[j]? = some x → meet x y = false) : RSt a b i (k + 1) (all ++ [y]) := by
  have hk : k < b.length := (List.getElem?_eq_some_iff.1 hy).1
  refine ⟨h.hi, hk, by simp [h.len]; omega, ?_, mtg_more h.no (fun p e he => h.nb p e y he hy hm), ?_, ?_⟩
  · rw [← h.cat, get_drop hy]
    cases hx : a[i]? with
    | none =>
      have : a.drop i = [] := List.drop_eq_nil_iff.2 (List.getElem?_eq_none_iff.1 hx)
      rw [this, sbs_left, sbs_left]; simp
    | some x => rw [get_drop hx, sbs_b (hq x hx)]; simp
  · intro p e x he hx hmx
    rw [snoc_inj he]
    have h1 := ha.le i x hx
    have h2 := hb.le k y hy
    refine mts_of_meet h2 h1 (.inr (hmx k y rfl hy)) ?_
    have := hq x hx
    unfold ahd ins at this
    simp at this
    omega
  · intro p e y' he hy' _
    rw [snoc_inj he]
    exact mts_good hb hy hy'

theorem rst_end {a b : List Ed} {i k : Nat} {all : List Ed} (h : RSt a b i k all) (hi : a.length ≤ i) (hk : b.length ≤ k) : all = sbs a b ∧ mtg (sbs a b) = false := by
  have e : all = sbs a b := by
    have := h.cat
    rw [List.drop_eq_nil_iff.2 hi, List.drop_eq_nil_iff.2 hk, sbs_left, List.append_nil] at this
    exact this
  exact ⟨e, e ▸ h.no⟩

/-- what Merge answers: an error, or the list -/
def mrg (a b : List Ed) : List Ed := if mtg (sbs a b) = true then [] else if 65536 < (jn (sbs a b)).length then [] else jn (sbs a b)
def mrgE (a b : List Ed) : Int := if mtg (sbs a b) = true then 11 else if 65536 < (jn (sbs a b)).length then 2 else 0
end Go.Proofs.YteolfolkolpehaaDoor
