import Derived.Test.YtgijcbipnjmhgabTg0
import Derived.Test.YtgijcbipnjmhgabLu2
import Derived.Test.YtgijcbipnjmhgabSmI
import Derived.BigQuiet
namespace Go.Proofs.Ytgijcbipnjmhgab
set_option linter.unusedVariables false
set_option linter.unusedSimpArgs false

/-- where onCycle stops -/
def Stp (ps : List Pr) (lw : Nat → Nat) (n x : Nat) : Prop := (∃ y, y < n ∧ y ≠ x ∧ lw y = x) ∨ Eg ps x x
theorem Rch.first {ps : List Pr} {x y : Nat} (h : Rch ps x y) (hne : x ≠ y) : ∃ z, Eg ps x z ∧ Rch ps z y := by
  cases h with
  | refl => exact absurd rfl hne
  | step e k => exact ⟨_, e, k⟩
theorem Stp.onc {ps : List Pr} {n x : Nat} {lw : Nat → Nat} (h : Lws ps n lw) (hs : Stp ps lw n x) : OnC ps x := by
  rcases hs with ⟨y, hy, hne, e⟩ | hs
  · have h1 := (h.low y hy).1
    rw [e] at h1
    obtain ⟨z, hz, hr⟩ := h1.2.first (fun e => hne e.symm)
    exact ⟨z, hz, hr.trans h1.1⟩
  · exact ⟨x, hs, .refl _⟩
theorem Lws.edge {ps : List Pr} {n x z : Nat} {lw : Nat → Nat} (h : Lws ps n lw) (he : Eg ps x z) : x < n ∧ z < n := by
  have := h.rng _ he
  simp only at this
  omega
theorem OnC.stp {ps : List Pr} {n x : Nat} {lw : Nat → Nat} (h : Lws ps n lw) (hs : OnC ps x) : ∃ z, z ≤ x ∧ Stp ps lw n z := by
  obtain ⟨z, hz, hr⟩ := hs
  obtain ⟨hx, hzn⟩ := h.edge hz
  have hle := (h.low x hx).2 x (Sam.refl ps x)
  by_cases e : lw x = x
  · refine ⟨x, Nat.le_refl _, ?_⟩
    by_cases e2 : z = x
    · subst e2; exact .inr hz
    · exact .inl ⟨z, hzn, e2, ((h.eq hzn hx).2 ⟨hr, .step hz (.refl _)⟩).trans e⟩
  · exact ⟨lw x, hle, .inl ⟨x, hx, fun e2 => e e2.symm, rfl⟩⟩
/-- the lowest thing on a cycle -/
def Fst (ps : List Pr) (f : Nat) : Prop := OnC ps f ∧ ∀ y, OnC ps y → f ≤ y
theorem Fst.uniq {ps : List Pr} {f g : Nat} (h : Fst ps f) (k : Fst ps g) : f = g := by
  have := h.2 _ k.1
  have := k.2 _ h.1
  omega
theorem stp_fst {ps : List Pr} {n x : Nat} {lw : Nat → Nat} (h : Lws ps n lw) (hs : Stp ps lw n x) (hb : ∀ y, y < x → ¬ Stp ps lw n y) : Fst ps x :=
  ⟨hs.onc h, fun y hy => by
    obtain ⟨z, hz, hs2⟩ := hy.stp h
    by_cases e : z < x
    · exact absurd hs2 (hb z e)
    · omega⟩
/-- others, as counted -/
def cnO (lw : Nat → Nat) (k l : Nat) : Nat := ((List.range k).filter fun y => decide (lw y = l) && decide (y ≠ l)).length
theorem cnO_succ (lw : Nat → Nat) (k l : Nat) : cnO lw (k + 1) l = cnO lw k l + if lw k = l ∧ k ≠ l then 1 else 0 := by
  unfold cnO
  rw [List.range_succ, List.filter_append, List.length_append]
  congr 1
  by_cases h : lw k = l ∧ k ≠ l
  · rw [if_pos h, List.filter_cons_of_pos (by simp [h.1, h.2])]; rfl
  · rw [if_neg h, List.filter_cons_of_neg (by simpa using h)]; rfl
theorem cnO_le (lw : Nat → Nat) (k l : Nat) : cnO lw k l ≤ k := by
  unfold cnO
  exact Nat.le_trans (List.length_filter_le _ _) (by rw [List.length_range]; exact Nat.le_refl _)
theorem cnO_zero (lw : Nat → Nat) (k l : Nat) : cnO lw k l = 0 ↔ ∀ y, y < k → ¬ (y ≠ l ∧ lw y = l) := by
  unfold cnO
  rw [List.length_eq_zero_iff, List.filter_eq_nil_iff]
  constructor
  · intro h y hy ⟨h1, h2⟩
    exact h y (List.mem_range.2 hy) (by simp [h1, h2])
  · intro h y hy h2
    simp only [Bool.and_eq_true, decide_eq_true_eq] at h2
    exact h y (List.mem_range.1 hy) ⟨h2.2, h2.1⟩
theorem stp_iff {ps : List Pr} {n x : Nat} {lw : Nat → Nat} : ¬ Stp ps lw n x ↔ cnO lw n x = 0 ∧ ¬ Eg ps x x := by
  rw [cnO_zero]
  unfold Stp
  constructor
  · intro h
    exact ⟨fun y hy hc => h (.inl ⟨y, hy, hc.1, hc.2⟩), fun he => h (.inr he)⟩
  · rintro ⟨h1, h2⟩ (⟨y, hy, h3, h4⟩ | h3)
    · exact h1 y hy ⟨h3, h4⟩
    · exact h2 h3
open Classical in
/-- where nothing is on a cycle, all are lined up -/
theorem all_in {ps : List Pr} {n : Nat} {N : Nat → List Int} {os : List Int} (hr : ∀ p ∈ ps, (0 ≤ p.a ∧ p.a < (n : Int)) ∧ (0 ≤ p.b ∧ p.b < (n : Int))) (hN : LstR n ps N) (hl : Ln N n os) (hno : ∀ x, ¬ OnC ps x) : ∀ c x : Nat, x < n → cntR ps n x ≤ c → (x : Int) ∈ os := by
  intro c
  induction c using Nat.strongRecOn with
  | ind c ih =>
  intro x hx hc
  apply Classical.byContradiction
  intro hxo
  have h1 := hl.no (x : Int)
  unfold Rdy at h1
  have h2 : ∃ z ∈ N x, z ∉ os := by
    apply Classical.byContradiction
    intro h3
    refine h1 ⟨by omega, by omega, hxo, fun z hz => ?_⟩
    rw [show ((x : Int)).toNat = x by omega] at hz
    apply Classical.byContradiction
    intro h4
    exact h3 ⟨z, hz, h4⟩
  obtain ⟨z0, hz, hzo⟩ := h2
  have he := ((hN x hx).2 z0).1 hz
  have hr1 := hr _ he
  simp only at hr1
  obtain ⟨z, rfl⟩ : ∃ z : Nat, z0 = (z : Int) := ⟨z0.toNat, by omega⟩
  have hlt : cntR ps n z < cntR ps n x := by
    unfold cntR
    refine filter_lt (fun y hy => ?_) ⟨x, List.mem_range.2 hx, ?_, ?_⟩
    · rw [decide_eq_true_eq] at hy ⊢; exact .step he hy
    · rw [decide_eq_true_eq]; exact .refl _
    · rw [decide_eq_false_iff_not]; exact fun hb => hno x ⟨z, he, hb⟩
  exact hzo (ih (cntR ps n z) (by omega) z (by omega) (Nat.le_refl _))
theorem ge_all : ∀ (n : Nat) (l : List Int), (∀ x : Nat, x < n → (x : Int) ∈ l) → n ≤ l.length
  | 0, _, _ => Nat.zero_le _
  | n + 1, l, h => by
    have h1 := ge_all n (l.erase (n : Int)) (fun x hx => (List.mem_erase_of_ne (by omega)).2 (h x (by omega)))
    have h2 := h n (Nat.lt_succ_self n)
    have h3 := List.length_pos_of_mem h2
    rw [List.length_erase_of_mem h2] at h1
    omega
theorem full_iff {n : Nat} {os : List Int} (h : os.Nodup) (hr : ∀ y ∈ os, 0 ≤ y ∧ y < (n : Int)) : os.length = n ↔ ∀ x : Nat, x < n → (x : Int) ∈ os := by
  constructor
  · intro hl x hx
    apply Classical.byContradiction
    intro hno
    have := nodup_le (n := n) (os := (x : Int) :: os) (List.nodup_cons.2 ⟨hno, h⟩) (fun y hy => (List.mem_cons.1 hy).elim (fun e => by subst e; omega) (hr y))
    rw [List.length_cons] at this
    omega
  · intro ha
    have h1 := nodup_le h hr
    have h2 := ge_all n os ha
    omega
/-- in a line each thing stands behind what it needs -/
theorem Gd.before {N : Nat → List Int} {n : Nat} {os : List Int} (h : Gd N n os) (hn : os.Nodup) {i j : Nat} {x z : Int} (hi : os[i]? = some x) (hj : os[j]? = some z) (hz : z ∈ N x.toNat) : j < i := by
  obtain ⟨l1, e1⟩ := List.getElem?_eq_some_iff.1 hi
  have hsp : os = os.take i ++ x :: os.drop (i + 1) := by
    rw [← e1, List.getElem_cons_drop, List.take_append_drop]
  have h1 := (h _ _ _ hsp).1.2.2.2 z hz
  obtain ⟨k, hk⟩ := List.getElem?_of_mem h1
  have hki : k < i := by
    have := (List.getElem?_eq_some_iff.1 hk).1
    rw [List.length_take] at this
    omega
  rw [List.getElem?_take, if_pos hki] at hk
  obtain ⟨l2, e2⟩ := List.getElem?_eq_some_iff.1 hk
  obtain ⟨l3, e3⟩ := List.getElem?_eq_some_iff.1 hj
  have hpw := List.pairwise_iff_getElem.1 hn
  rcases Nat.lt_trichotomy k j with hkj | hkj | hkj
  · exact absurd (e2.trans e3.symm) (hpw k j l2 l3 hkj)
  · omega
  · exact absurd (e3.trans e2.symm) (hpw j k l3 l2 hkj)
/-- what is lined up is on no cycle -/
theorem Ln.noc {ps : List Pr} {n : Nat} {N : Nat → List Int} {os : List Int} (hr : ∀ p ∈ ps, (0 ≤ p.a ∧ p.a < (n : Int)) ∧ (0 ≤ p.b ∧ p.b < (n : Int))) (hN : LstR n ps N) (hl : Ln N n os) (hf : os.length = n) (x : Nat) : ¬ OnC ps x := by
  have hall := (full_iff hl.nod hl.rng).1 hf
  have hedge : ∀ u v : Nat, Eg ps u v → u < n ∧ v < n := fun u v he => by
    have := hr _ he
    simp only at this
    omega
  have key : ∀ u v : Nat, Rch ps u v → u < n → ∀ i j : Nat, os[i]? = some (u : Int) → os[j]? = some (v : Int) → j ≤ i := by
    intro u v huv
    induction huv with
    | refl u =>
      intro hu i j hi hj
      obtain ⟨l1, e1⟩ := List.getElem?_eq_some_iff.1 hi
      obtain ⟨l2, e2⟩ := List.getElem?_eq_some_iff.1 hj
      have hpw := List.pairwise_iff_getElem.1 hl.nod
      by_cases hij : i < j
      · exact absurd (e1.trans e2.symm) (hpw i j l1 l2 hij)
      · omega
    | step e _ ih =>
      intro hu i j hi hj
      rename_i x y z _
      have hy := (hedge x y e).2
      obtain ⟨k, hk⟩ := List.getElem?_of_mem (hall y hy)
      have h1 := ih hy k j hk hj
      have h2 := hl.gd.before hl.nod hi hk (by rw [show ((x : Int)).toNat = x by omega]; exact ((hN x hu).2 _).2 e)
      omega
  rintro ⟨z, he, hrz⟩
  obtain ⟨hx, hz⟩ := hedge x z he
  obtain ⟨i, hi⟩ := List.getElem?_of_mem (hall x hx)
  obtain ⟨k, hk⟩ := List.getElem?_of_mem (hall z hz)
  have h1 := key z x hrz hz k i hk hi
  have h2 := hl.gd.before hl.nod hi hk (by rw [show ((x : Int)).toNat = x by omega]; exact ((hN x hx).2 _).2 he)
  omega
/-- where not all are lined up, there is a lowest one on a cycle -/
theorem Ln.fst {ps : List Pr} {n : Nat} {N : Nat → List Int} {os : List Int} (hr : ∀ p ∈ ps, (0 ≤ p.a ∧ p.a < (n : Int)) ∧ (0 ≤ p.b ∧ p.b < (n : Int))) (hN : LstR n ps N) (hl : Ln N n os) (hf : os.length ≠ n) : ∃ x, x < n ∧ OnC ps x := by
  apply Classical.byContradiction
  intro h
  have hno : ∀ x, ¬ OnC ps x := fun x hx => by
    obtain ⟨z, he, hrz⟩ := hx
    have := hr _ he
    simp only at this
    exact h ⟨x, by omega, z, he, hrz⟩
  exact hf ((full_iff hl.nod hl.rng).2 fun x hx => all_in hr hN hl hno _ x hx (Nat.le_refl _))
end Go.Proofs.Ytgijcbipnjmhgab

namespace Go.Proofs.Ytgijcbipnjmhgab
set_option linter.unusedVariables false
set_option linter.unusedSimpArgs false

/-- one of S that may stand behind these -/
def Rdn (S : Int → Prop) (R : Int → Int → Prop) (ps : List Int) (x : Int) : Prop := S x ∧ x ∉ ps ∧ ∀ z, R x z → z ∈ ps
/-- always the lowest, until none may come -/
structure Gn (S : Int → Prop) (R : Int → Int → Prop) (os : List Int) : Prop where
  gd : ∀ ps x qs, os = ps ++ x :: qs → Rdn S R ps x ∧ ∀ y, Rdn S R ps y → x ≤ y
  no : ∀ x, ¬ Rdn S R os x
theorem Gn.same {S : Int → Prop} {R : Int → Int → Prop} {os os' : List Int} (h : Gn S R os) (k : Gn S R os') : ∀ a ps b : List Int, os = ps ++ a → os' = ps ++ b → a = b
  | [], ps, [], _, _ => rfl
  | [], ps, y :: b, e1, e2 => by
    have h1 := (k.gd ps y b e2).1
    rw [List.append_nil] at e1
    rw [← e1] at h1
    exact absurd h1 (h.no y)
  | x :: a, ps, [], e1, e2 => by
    have h1 := (h.gd ps x a e1).1
    rw [List.append_nil] at e2
    rw [← e2] at h1
    exact absurd h1 (k.no x)
  | x :: a, ps, y :: b, e1, e2 => by
    have h1 := h.gd ps x a e1
    have h2 := k.gd ps y b e2
    have h3 := h1.2 y h2.1
    have h4 := h2.2 x h1.1
    have e : x = y := by omega
    subst e
    rw [Gn.same h k a (ps ++ [x]) b (by rw [e1]; simp) (by rw [e2]; simp)]
theorem Gn.uniq {S : Int → Prop} {R : Int → Int → Prop} {os os' : List Int} (h : Gn S R os) (k : Gn S R os') : os = os' := Gn.same h k os [] os' rfl rfl
theorem Gn.congr {S S' : Int → Prop} {R R' : Int → Int → Prop} {os : List Int} (h : Gn S R os) (hS : ∀ x, S x ↔ S' x) (hR : ∀ x, S x → ∀ z, R x z ↔ R' x z) : Gn S' R' os := by
  have key : ∀ ps x, Rdn S R ps x ↔ Rdn S' R' ps x := fun ps x => by
    unfold Rdn
    constructor
    · rintro ⟨a, b, c⟩; exact ⟨(hS x).1 a, b, fun z hz => c z ((hR x a z).2 hz)⟩
    · rintro ⟨a, b, c⟩; exact ⟨(hS x).2 a, b, fun z hz => c z ((hR x ((hS x).2 a) z).1 hz)⟩
  exact ⟨fun ps x qs e => ⟨(key ps x).1 (h.gd ps x qs e).1, fun y hy => (h.gd ps x qs e).2 y ((key ps y).2 hy)⟩, fun x hx => h.no x ((key os x).2 hx)⟩
/-- a part of them that needs nothing else -/
theorem Gn.filter {S : Int → Prop} {R : Int → Int → Prop} {os : List Int} (h : Gn S R os) (P : Int → Bool) (hP : ∀ x, S x → P x = true → ∀ z, R x z → P z = true) : Gn (fun x => S x ∧ P x = true) R (os.filter P) := by
  have key : ∀ ps x, Rdn (fun x => S x ∧ P x = true) R (ps.filter P) x ↔ Rdn S R ps x ∧ P x = true := fun ps x => by
    unfold Rdn
    constructor
    · rintro ⟨⟨a, p⟩, b, c⟩
      exact ⟨⟨a, fun hm => b (List.mem_filter.2 ⟨hm, p⟩), fun z hz => (List.mem_filter.1 (c z hz)).1⟩, p⟩
    · rintro ⟨⟨a, b, c⟩, p⟩
      exact ⟨⟨a, p⟩, fun hm => b (List.mem_filter.1 hm).1, fun z hz => List.mem_filter.2 ⟨c z hz, hP x a p z hz⟩⟩
  refine ⟨fun ps x qs e => ?_, fun x hx => h.no x ((key os x).1 hx).1⟩
  obtain ⟨l1, l2, e1, e2, e3⟩ := List.filter_eq_append_iff.1 e
  obtain ⟨m1, m2, e4, e5, hpx, e6⟩ := List.filter_eq_cons_iff.1 e3
  have hm1 : m1.filter P = [] := List.filter_eq_nil_iff.2 (fun a ha => e5 a ha)
  have hsp : os = (l1 ++ m1) ++ x :: m2 := by rw [e1, e4, List.append_assoc]
  have hf : (l1 ++ m1).filter P = ps := by rw [List.filter_append, e2, hm1, List.append_nil]
  have h1 := h.gd _ _ _ hsp
  rw [← hf]
  exact ⟨(key _ x).2 ⟨h1.1, hpx⟩, fun y hy => h1.2 y ((key _ y).1 hy).1⟩
/-- lineUp's answer -/
theorem Ln.gn {ps : List Pr} {n : Nat} {N : Nat → List Int} {os : List Int} (hN : LstR n ps N) (hl : Ln N n os) : Gn (fun x => 0 ≤ x ∧ x < (n : Int)) (fun x z => (⟨x, z⟩ : Pr) ∈ ps) os := by
  have key : ∀ qs x, Rdy N n qs x ↔ Rdn (fun x => 0 ≤ x ∧ x < (n : Int)) (fun x z => (⟨x, z⟩ : Pr) ∈ ps) qs x := fun qs x => by
    unfold Rdy Rdn
    constructor
    · rintro ⟨a, b, c, d⟩
      refine ⟨⟨a, b⟩, c, fun z hz => d z (((hN x.toNat (by omega)).2 z).2 ?_)⟩
      rw [show ((x.toNat : Nat) : Int) = x by omega]; exact hz
    · rintro ⟨⟨a, b⟩, c, d⟩
      refine ⟨a, b, c, fun z hz => d z ?_⟩
      have := ((hN x.toNat (by omega)).2 z).1 hz
      rwa [show ((x.toNat : Nat) : Int) = x by omega] at this
  exact ⟨fun qs x rs e => ⟨(key qs x).1 (hl.gd qs x rs e).1, fun y hy => (hl.gd qs x rs e).2 y ((key qs y).2 hy)⟩, fun x hx => hl.no x ((key os x).2 hx)⟩
end Go.Proofs.Ytgijcbipnjmhgab

namespace Go.Proofs.Ytgijcbipnjmhgab
open Go.ChangeShapes Go.WideShapes Go.ChangeAt Go.RowKit
set_option linter.unusedVariables false
set_option linter.unusedSimpArgs false

/-- an answer, with its number -/
abbrev Ans (f : Nat) (args : Array Value) (E : Int) (w : World) : Prop := Calls Try.prog f args w fun e w' => ∃ v, e = .returned (.tuple #[v, .int .i64 E]) ∧ Below w.heap.size w w'
end Go.Proofs.Ytgijcbipnjmhgab

namespace Go.Proofs.Ytgijcbipnjmhgab
open Go.ChangeShapes Go.WideShapes Go.ChangeAt Go.RowKit
set_option linter.unusedVariables false
set_option linter.unusedSimpArgs false

/-- of which part each thing is, for the first parts, and the first things of the next -/
structure Ofp (pss : List (List Int)) (n i j : Nat) (os : List Int) : Prop where
  len : os.length = n
  old : ∀ (k : Nat) p (y : Nat), k < i → pss[k]? = some p → (y : Int) ∈ p → os[y]? = some (k : Int)
  new : ∀ p (y : Nat), pss[i]? = some p → (y : Int) ∈ p.take j → os[y]? = some (i : Int)
theorem Ofp.start (pss : List (List Int)) (n : Nat) : Ofp pss n 0 0 (List.replicate n 0) := ⟨by simp, fun k p y h => by omega, fun p y _ h => by simp at h⟩
theorem Ofp.next {pss : List (List Int)} {n i : Nat} {p : List Int} {os : List Int} (h : Ofp pss n i p.length os) (hp : pss[i]? = some p) : Ofp pss n (i + 1) 0 os := by
  refine ⟨h.len, fun k q y hk hq hy => ?_, fun q y _ hy => by simp at hy⟩
  by_cases e : k = i
  · subst e
    rw [hp] at hq
    cases hq
    exact h.new p y hp (by rw [List.take_length]; exact hy)
  · exact h.old k q y (by omega) hq hy
theorem Ofp.step {ps : List Pr} {pss : List (List Int)} {n i j y : Nat} {p : List Int} {os : List Int} (hr : Prt ps n pss) (h : Ofp pss n i j os) (hp : pss[i]? = some p) (hy : p[j]? = some (y : Int)) (hyn : y < n) : Ofp pss n i (j + 1) (os.set y (i : Int)) := by
  refine ⟨by rw [List.length_set]; exact h.len, fun k q x hk hq hx => ?_, fun q x hq hx => ?_⟩
  · have hne : y ≠ x := fun e => by
      subst e
      have := hr.one k i q p _ hq hp hx (List.mem_of_getElem? hy)
      omega
    rw [List.getElem?_set_ne hne]
    exact h.old k q x hk hq hx
  · rw [hp] at hq
    cases hq
    by_cases e : y = x
    · subst e
      rw [List.getElem?_set_self (by rw [h.len]; exact hyn)]
    · rw [List.getElem?_set_ne e]
      rw [List.take_add_one, hy] at hx
      rcases List.mem_append.1 hx with hx | hx
      · exact h.new p x hp hx
      · simp at hx
        exact absurd (by omega) e
theorem Ofp.done {pss : List (List Int)} {n : Nat} {os : List Int} (h : Ofp pss n pss.length 0 os) {k y : Nat} {p : List Int} (hp : pss[k]? = some p) (hy : (y : Int) ∈ p) : os[y]? = some (k : Int) := h.old k p y (List.getElem?_eq_some_iff.1 hp).1 hp hy
/-- of one part, or not -/
theorem of_eq {ps : List Pr} {pss : List (List Int)} {n : Nat} {os : List Int} (hr : Prt ps n pss) (h : Ofp pss n pss.length 0 os) {a b : Nat} (ha : a < n) (hb : b < n) : ∃ i j : Nat, os[a]? = some (i : Int) ∧ os[b]? = some (j : Int) ∧ (i = j ↔ Sam ps a b) := by
  obtain ⟨i, p, hp, hap⟩ := hr.all a ha
  obtain ⟨j, q, hq, hbq⟩ := hr.all b hb
  refine ⟨i, j, h.done hp hap, h.done hq hbq, ?_⟩
  constructor
  · intro e
    subst e
    rw [hp] at hq
    cases hq
    exact ((hr.sam i p a b hp hap).1 hbq).2
  · intro hs
    exact hr.one i j p q (b : Int) hp hq ((hr.sam i p a b hp hap).2 ⟨hb, hs⟩) hbq
theorem Rv.read {B : Nat} {w w' : World} {v : Value} {pss : List (List Int)} (h : Rv B w v pss) (hb : Below w.heap.size w w') : ∃ aP cP, v = .slice aP pss.length cP ∧ ∀ (i : Nat) p, pss[i]? = some p → ∃ gP, aP = some ⟨gP, 0, none⟩ ∧ gP < w.heap.size ∧ ∃ a' c', w'.cell? ⟨gP, i, none⟩ = some (.slice a' p.length c') ∧ (0 < p.length → ∃ g', a' = some ⟨g', 0, none⟩ ∧ g' < w.heap.size ∧ ∀ (j : Nat) y, p[j]? = some y → w'.cell? ⟨g', j, none⟩ = some (.int .i64 y)) := by
  obtain ⟨vals, h1, h2, h3⟩ := h
  obtain ⟨aP, cP, hv, ha, -⟩ := own_slice h1
  refine ⟨aP, cP, by rw [hv, h2], fun i p hp => ?_⟩
  have hi := (List.getElem?_eq_some_iff.1 hp).1
  obtain ⟨gP, rfl⟩ := ha (by omega)
  subst hv
  have hlt := (h1.lt gP rfl).2
  obtain ⟨u, hu, ho⟩ := h3 i p hp
  obtain ⟨a', c', hv', ha', -⟩ := own_slice ho
  subst hv'
  have k1 := h1.cells rfl i _ hu
  rw [addr_add, Nat.zero_add] at k1
  refine ⟨gP, rfl, hlt, a', c', (hb.cell (p := ⟨gP, i, none⟩) hlt).trans k1, fun h0 => ?_⟩
  obtain ⟨g', rfl⟩ := ha' h0
  have hlt' := (ho.lt g' rfl).2
  refine ⟨g', rfl, hlt', fun j y hy => (hb.cell (p := ⟨g', j, none⟩) hlt').trans ?_⟩
  have k2 := ho.cells rfl j (.int .i64 y) (by rw [List.getElem?_map, hy]; rfl)
  rwa [addr_add, Nat.zero_add] at k2
theorem pts_len (n : Nat) (lw : Nat → Nat) (os : List Int) : (pts n lw os).length ≤ os.length := by
  unfold pts
  rw [List.length_map]
  exact List.length_filter_le _ _
end Go.Proofs.Ytgijcbipnjmhgab
