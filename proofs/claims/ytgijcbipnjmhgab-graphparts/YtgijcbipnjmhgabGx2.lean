import Derived.Test.YtgijcbipnjmhgabFa3
import Derived.Test.YtgijcbipnjmhgabGq0
import Derived.Test.YtgijcbipnjmhgabFa0
import Derived.Test.YtgijcbipnjmhgabWo0
namespace Go.Proofs.Ytgijcbipnjmhgab
set_option linter.unusedVariables false
set_option linter.unusedSimpArgs false

/-- a tree of counts over s leaves: each inner node counts its two; e: what is still to be added at node k -/
structure Lt (s : Nat) (S : Nat → Prop) (cs : List Int) (k : Nat) (e : Int) : Prop where
  len : cs.length = 2 * s
  inn : ∀ j, 1 ≤ j → j < s → cs[j]! + (if j = k then e else 0) = cs[2 * j]! + cs[2 * j + 1]!
  one : ∀ y, y < s → S y → cs[s + y]! + (if s + y = k then e else 0) = 1
  zer : ∀ y, y < s → ¬ S y → cs[s + y]! + (if s + y = k then e else 0) = 0
theorem Lt.start {s : Nat} : Lt s (fun _ => False) (List.replicate (2 * s) 0) 0 0 := by
  have h0 : ∀ j : Nat, (List.replicate (2 * s) (0 : Int))[j]! = 0 := fun j => by
    by_cases h : j < 2 * s
    · rw [getElem!_pos _ _ (by simpa using h)]; simp
    · rw [getElem!_neg _ _ (by simpa using h)]; rfl
  exact ⟨by simp, fun j _ _ => by rw [h0, h0, h0]; simp, fun y _ h => h.elim, fun y _ _ => by rw [h0]; simp⟩
/-- Put begins: a leaf is to be changed -/
theorem Lt.put {s x : Nat} {S : Nat → Prop} {cs : List Int} (h : Lt s S cs 0 0) (hs : 1 ≤ s) (hx : x < s) : (¬ S x → Lt s (fun y => S y ∨ y = x) cs (s + x) 1) ∧ (S x → Lt s (fun y => S y ∧ y ≠ x) cs (s + x) (-1)) := by
  have i0 := h.inn
  have h1 := h.one
  have h2 := h.zer
  refine ⟨fun hn => ⟨h.len, fun j hj1 hj2 => ?_, fun y hy hS => ?_, fun y hy hS => ?_⟩, fun hn => ⟨h.len, fun j hj1 hj2 => ?_, fun y hy hS => ?_, fun y hy hS => ?_⟩⟩
  · rw [if_neg (by omega)]; have := i0 j hj1 hj2; rwa [if_neg (by omega)] at this
  · by_cases e : y = x
    · subst e; rw [if_pos rfl]; have := h2 y hy hn; rw [if_neg (by omega)] at this; omega
    · rw [if_neg (by omega)]; have := h1 y hy (hS.resolve_right e); rwa [if_neg (by omega)] at this
  · have e : y ≠ x := fun e => hS (.inr e)
    rw [if_neg (by omega)]; have := h2 y hy (fun h => hS (.inl h)); rwa [if_neg (by omega)] at this
  · rw [if_neg (by omega)]; have := i0 j hj1 hj2; rwa [if_neg (by omega)] at this
  · rw [if_neg (by have := hS.2; omega)]; have := h1 y hy hS.1; rwa [if_neg (by omega)] at this
  · by_cases e : y = x
    · subst e; rw [if_pos rfl]; have := h1 y hy hn; rw [if_neg (by omega)] at this; omega
    · rw [if_neg (by omega)]; have := h2 y hy (fun h => hS ⟨h, e⟩); rwa [if_neg (by omega)] at this
/-- Put goes up -/
theorem Lt.up {s k : Nat} {e : Int} {S : Nat → Prop} {cs : List Int} (h : Lt s S cs k e) (hs : 1 ≤ s) (hk : 0 < k) (hk2 : k < 2 * s) : Lt s S (cs.set k (cs[k]! + e)) (k / 2) e := by
  have hl : k < cs.length := by rw [h.len]; exact hk2
  refine ⟨by rw [List.length_set]; exact h.len, fun j hj1 hj2 => ?_, fun y hy hS => ?_, fun y hy hS => ?_⟩
  · have h1 := h.inn j hj1 hj2
    rw [get_set cs k j _ hl, get_set cs k (2 * j) _ hl, get_set cs k (2 * j + 1) _ hl]
    by_cases e1 : j = k
    · subst e1
      rw [if_pos rfl] at h1
      rw [if_pos rfl, if_neg (by omega), if_neg (by omega), if_neg (by omega)]
      omega
    · rw [if_neg e1] at h1
      rw [if_neg e1]
      by_cases e2 : j = k / 2
      · rw [if_pos e2]
        by_cases e3 : 2 * j = k
        · have e5 : cs[2 * j]! = cs[k]! := by rw [e3]
          rw [if_pos e3, if_neg (by omega)]; omega
        · have e4 : 2 * j + 1 = k := by omega
          rw [if_neg e3, if_pos e4]; rw [e4] at h1; omega
      · rw [if_neg e2, if_neg (by omega), if_neg (by omega)]; omega
  · have h1 := h.one y hy hS
    rw [get_set cs k _ _ hl]
    by_cases e1 : s + y = k
    · rw [if_pos e1] at h1 ⊢; rw [if_neg (by omega)]; rw [e1] at h1; omega
    · rw [if_neg e1] at h1 ⊢; rw [if_neg (by omega)]; exact h1
  · have h1 := h.zer y hy hS
    rw [get_set cs k _ _ hl]
    by_cases e1 : s + y = k
    · rw [if_pos e1] at h1 ⊢; rw [if_neg (by omega)]; rw [e1] at h1; omega
    · rw [if_neg e1] at h1 ⊢; rw [if_neg (by omega)]; exact h1
theorem Lt.zero {s : Nat} {e : Int} {S : Nat → Prop} {cs : List Int} (h : Lt s S cs 0 e) (hs : 1 ≤ s) : Lt s S cs 0 0 :=
  ⟨h.len, fun j hj1 hj2 => by have := h.inn j hj1 hj2; rw [if_neg (by omega)] at this ⊢; exact this, fun y hy hS => by have := h.one y hy hS; rw [if_neg (by omega)] at this ⊢; exact this, fun y hy hS => by have := h.zer y hy hS; rw [if_neg (by omega)] at this ⊢; exact this⟩
open Classical in
/-- a node's count: between nothing and its leaves; nothing just where it has none -/
theorem Lt.sum {s : Nat} {S : Nat → Prop} {cs : List Int} (h : Lt s S cs 0 0) : ∀ (a k : Nat), 1 ≤ k → s ≤ k * 2 ^ a → k * 2 ^ a + 2 ^ a ≤ 2 * s → 0 ≤ cs[k]! ∧ cs[k]! ≤ (2 ^ a : Nat) ∧ (cs[k]! = 0 ↔ ∀ y, y < s → k * 2 ^ a ≤ s + y → s + y < k * 2 ^ a + 2 ^ a → ¬ S y)
  | 0, k, hk, h1, h2 => by
    simp only [Nat.pow_zero, Nat.mul_one] at h1 h2 ⊢
    obtain ⟨y, rfl⟩ : ∃ y, k = s + y := ⟨k - s, by omega⟩
    by_cases hS : S y
    · have := h.one y (by omega) hS
      rw [if_neg (by omega)] at this
      refine ⟨by omega, by omega, ⟨fun e => by omega, fun e => absurd hS (e y (by omega) (by omega) (by omega))⟩⟩
    · have := h.zer y (by omega) hS
      rw [if_neg (by omega)] at this
      refine ⟨by omega, by omega, ⟨fun _ z hz1 hz2 hz3 => by rw [show z = y by omega]; exact hS, fun _ => by omega⟩⟩
  | a + 1, k, hk, h1, h2 => by
    have e1 : k * 2 ^ (a + 1) = 2 * k * 2 ^ a := by rw [Nat.pow_succ, Nat.mul_comm 2 k, Nat.mul_assoc, Nat.mul_comm (2 ^ a) 2]
    have e2 : (2 * k + 1) * 2 ^ a = 2 * k * 2 ^ a + 2 ^ a := by rw [Nat.add_mul, Nat.one_mul]
    have e3 : 2 ^ (a + 1) = 2 ^ a + 2 ^ a := by rw [Nat.pow_succ]; omega
    rw [e1, e3] at h2
    rw [e1] at h1
    have hp : 1 ≤ 2 ^ a := Nat.one_le_two_pow
    obtain ⟨a1, a2, a3⟩ := Lt.sum h a (2 * k) (by omega) h1 (by omega)
    obtain ⟨b1, b2, b3⟩ := Lt.sum h a (2 * k + 1) (by omega) (by omega) (by omega)
    have hks : k < s := by
      have : 2 * k * 1 ≤ 2 * k * 2 ^ a := Nat.mul_le_mul_left _ hp
      omega
    have hi := h.inn k hk hks
    rw [if_neg (by omega)] at hi
    refine ⟨by omega, by rw [e3]; omega, ?_⟩
    rw [e1, e3]
    constructor
    · intro e y hy hy1 hy2
      by_cases hlt : s + y < 2 * k * 2 ^ a + 2 ^ a
      · exact a3.1 (by omega) y hy hy1 hlt
      · exact b3.1 (by omega) y hy (by omega) (by omega)
    · intro e
      have q1 := a3.2 fun y hy hy1 hy2 => e y hy hy1 (by omega)
      have q2 := b3.2 fun y hy hy1 hy2 => e y hy (by omega) (by omega)
      omega
/-- Least goes down: nothing stands left of node k, which counts something -/
structure Ld2 (s : Nat) (S : Nat → Prop) (cs : List Int) (k a : Nat) : Prop where
  k1 : 1 ≤ k
  lo : s ≤ k * 2 ^ a
  hi : k * 2 ^ a + 2 ^ a ≤ 2 * s
  pos : cs[k]! ≠ 0
  left : ∀ y, y < s → S y → k * 2 ^ a ≤ s + y
theorem Ld2.down {s k a : Nat} {S : Nat → Prop} {cs : List Int} (h : Lt s S cs 0 0) (d : Ld2 s S cs k (a + 1)) : (cs[2 * k]! ≠ 0 → Ld2 s S cs (2 * k) a) ∧ (cs[2 * k]! = 0 → Ld2 s S cs (2 * k + 1) a) := by
  have e1 : k * 2 ^ (a + 1) = 2 * k * 2 ^ a := by rw [Nat.pow_succ, Nat.mul_comm 2 k, Nat.mul_assoc, Nat.mul_comm (2 ^ a) 2]
  have e2 : (2 * k + 1) * 2 ^ a = 2 * k * 2 ^ a + 2 ^ a := by rw [Nat.add_mul, Nat.one_mul]
  have e3 : 2 ^ (a + 1) = 2 ^ a + 2 ^ a := by rw [Nat.pow_succ]; omega
  obtain ⟨k1, lo, hi, pos, left⟩ := d
  rw [e1] at lo
  rw [e1, e3] at hi
  have hp : 1 ≤ 2 ^ a := Nat.one_le_two_pow
  refine ⟨fun hne => ⟨by omega, lo, by omega, hne, fun y hy hS => by have := left y hy hS; omega⟩, fun h0 => ⟨by omega, by omega, by omega, ?_, fun y hy hS => ?_⟩⟩
  · have hks : k < s := by
      have : 2 * k * 1 ≤ 2 * k * 2 ^ a := Nat.mul_le_mul_left _ hp
      omega
    have := h.inn k k1 hks
    rw [if_neg (by omega)] at this
    omega
  · have := left y hy hS
    rw [e1] at this
    have h3 := (h.sum a (2 * k) (by omega) lo (by omega)).2.2.1 h0
    apply Classical.byContradiction
    intro hlt
    exact h3 y hy this (by omega) hS
theorem Ld2.leaf {s k : Nat} {S : Nat → Prop} {cs : List Int} (h : Lt s S cs 0 0) (d : Ld2 s S cs k 0) : ∃ x, k = s + x ∧ x < s ∧ S x ∧ ∀ y, y < s → S y → x ≤ y := by
  obtain ⟨k1, lo, hi, pos, left⟩ := d
  simp only [Nat.pow_zero, Nat.mul_one] at lo hi left
  obtain ⟨x, rfl⟩ : ∃ x, k = s + x := ⟨k - s, by omega⟩
  refine ⟨x, rfl, by omega, ?_, fun y hy hS => by have := left y hy hS; omega⟩
  apply Classical.byContradiction
  intro hS
  have := h.zer x (by omega) hS
  rw [if_neg (by omega)] at this
  omega
theorem Ld2.not {s k a : Nat} {S : Nat → Prop} {cs : List Int} (d : Ld2 s S cs k a) : (k < s → ∃ b, a = b + 1) ∧ (s ≤ k → a = 0) := by
  obtain ⟨k1, lo, hi, pos, left⟩ := d
  constructor
  · intro hk
    cases a with
    | zero => simp at lo; omega
    | succ b => exact ⟨b, rfl⟩
  · intro hk
    cases a with
    | zero => rfl
    | succ b =>
      have hp : 1 ≤ 2 ^ b := Nat.one_le_two_pow
      have e3 : 2 ^ (b + 1) = 2 ^ b + 2 ^ b := by rw [Nat.pow_succ]; omega
      have h2 : k * 2 ≤ k * 2 ^ (b + 1) := Nat.mul_le_mul_left _ (by omega)
      omega
end Go.Proofs.Ytgijcbipnjmhgab

namespace Go.Proofs.Ytgijcbipnjmhgab
set_option linter.unusedVariables false
set_option linter.unusedSimpArgs false

/-- who needs x, as often as an edge says so -/
def usr (ps : List Pr) (x : Int) : List Int := (ps.filter fun p => decide (p.b = x)).map Pr.a
theorem mem_usr {ps : List Pr} {x y : Int} : y ∈ usr ps x ↔ (⟨y, x⟩ : Pr) ∈ ps := by
  unfold usr
  rw [List.mem_map]
  constructor
  · rintro ⟨⟨a, b⟩, hp, rfl⟩
    rw [List.mem_filter] at hp
    have h2 : b = x := by simpa using hp.2
    rw [← h2]
    exact hp.1
  · intro h
    exact ⟨_, List.mem_filter.2 ⟨h, by simp⟩, rfl⟩
/-- how many edges of y lead to what is not there yet -/
def cnE (ps : List Pr) (os : List Int) (y : Int) : Nat := (ps.filter fun p => decide (p.a = y) && decide (p.b ∉ os)).length
def cnP (pend : List Int) (y : Int) : Nat := (pend.filter fun z => decide (z = y)).length
theorem cnP_cons (z y : Int) (p : List Int) : cnP (z :: p) y = cnP p y + if z = y then 1 else 0 := by
  unfold cnP
  by_cases h : z = y
  · rw [if_pos h, List.filter_cons_of_pos (by simpa using h)]; rfl
  · rw [if_neg h, List.filter_cons_of_neg (by simpa using h)]; rfl
theorem cnP_pos {p : List Int} {y : Int} (h : y ∈ p) : 1 ≤ cnP p y := by
  unfold cnP
  exact List.length_pos_of_mem (List.mem_filter.2 ⟨h, by simp⟩)
theorem cnE_snoc (ps : List Pr) (os : List Int) (m y : Int) (hm : m ∉ os) : cnE ps os y = cnE ps (os ++ [m]) y + cnP (usr ps m) y := by
  induction ps with
  | nil => rfl
  | cons p ps ih =>
    obtain ⟨a, b⟩ := p
    have hE : ∀ l : List Int, cnE (⟨a, b⟩ :: ps) l y = cnE ps l y + if a = y ∧ b ∉ l then 1 else 0 := fun l => by
      unfold cnE
      by_cases h : a = y ∧ b ∉ l
      · rw [if_pos h, List.filter_cons_of_pos (by simp [h.1, h.2])]; rfl
      · rw [if_neg h, List.filter_cons_of_neg (by simpa using h)]; rfl
    have hU : cnP (usr (⟨a, b⟩ :: ps) m) y = cnP (usr ps m) y + if b = m ∧ a = y then 1 else 0 := by
      unfold usr
      by_cases h : b = m
      · rw [List.filter_cons_of_pos (by simpa using h), List.map_cons, cnP_cons]
        simp only [h, true_and]
      · rw [List.filter_cons_of_neg (by simpa using h), if_neg (fun e => h e.1)]; rfl
    rw [hE, hE, hU, ih]
    by_cases ha : a = y
    · by_cases hb : b = m
      · subst hb
        rw [if_pos ⟨ha, hm⟩, if_neg (by simp), if_pos ⟨rfl, ha⟩]; omega
      · by_cases ho : b ∈ os
        · rw [if_neg (fun e => e.2 ho), if_neg (fun e => e.2 (List.mem_append_left _ ho)), if_neg (fun e => hb e.1)]; omega
        · rw [if_pos ⟨ha, ho⟩, if_pos ⟨ha, fun e => (List.mem_append.1 e).elim ho (fun e => hb (List.mem_singleton.1 e))⟩, if_neg (fun e => hb e.1)]; omega
    · rw [if_neg (fun e => ha e.1), if_neg (fun e => ha e.1), if_neg (fun e => ha e.2)]; omega
theorem cnE_zero {ps : List Pr} {os : List Int} {y : Int} : cnE ps os y = 0 ↔ ∀ z, (⟨y, z⟩ : Pr) ∈ ps → z ∈ os := by
  unfold cnE
  rw [List.length_eq_zero_iff, List.filter_eq_nil_iff]
  constructor
  · intro h z hz
    apply Classical.byContradiction
    intro hn
    exact h _ hz (by simp [hn])
  · rintro h ⟨a, b⟩ hp h2
    simp only [Bool.and_eq_true, decide_eq_true_eq] at h2
    obtain ⟨rfl, h3⟩ := h2
    exact h3 (h b hp)
theorem cnE_le (ps : List Pr) (os : List Int) (y : Int) : cnE ps os y ≤ ps.length := List.length_filter_le _ _
/-- the reference's counting: P tells what may come at all -/
structure Lr (ps : List Pr) (n : Nat) (P : Int → Bool) (os : List Int) (S : Nat → Prop) (ms pend : List Int) : Prop where
  len : ms.length = n
  cnt : ∀ y : Nat, y < n → ms[y]! = (cnE ps os (y : Int) : Int) + cnP pend (y : Int)
  rdy : ∀ y : Nat, S y ↔ (y < n ∧ P (y : Int) = true ∧ (y : Int) ∉ os ∧ ms[y]! = 0)
  gd : ∀ qs x rs, os = qs ++ x :: rs → Rdn (fun x => (0 ≤ x ∧ x < (n : Int)) ∧ P x = true) (fun x z => (⟨x, z⟩ : Pr) ∈ ps) qs x ∧ ∀ y, Rdn (fun x => (0 ≤ x ∧ x < (n : Int)) ∧ P x = true) (fun x z => (⟨x, z⟩ : Pr) ∈ ps) qs y → x ≤ y
  pnd : ∀ y ∈ pend, 0 ≤ y ∧ y < (n : Int) ∧ P y = true ∧ y ∉ os
theorem Lr.is {ps : List Pr} {n : Nat} {P : Int → Bool} {os ms : List Int} {S : Nat → Prop} (h : Lr ps n P os S ms []) (x : Nat) : S x ↔ Rdn (fun x => (0 ≤ x ∧ x < (n : Int)) ∧ P x = true) (fun x z => (⟨x, z⟩ : Pr) ∈ ps) os (x : Int) := by
  rw [h.rdy]
  unfold Rdn
  constructor
  · rintro ⟨a, b, c, d⟩
    rw [h.cnt x a] at d
    refine ⟨⟨⟨by omega, by omega⟩, b⟩, c, cnE_zero.1 ?_⟩
    have : cnP [] (x : Int) = 0 := rfl
    omega
  · rintro ⟨⟨⟨a, a2⟩, b⟩, c, d⟩
    refine ⟨by omega, b, c, ?_⟩
    rw [h.cnt x (by omega), cnE_zero.2 d]
    rfl
theorem Lr.pop {ps : List Pr} {n m : Nat} {P : Int → Bool} {os ms : List Int} {S : Nat → Prop} (h : Lr ps n P os S ms []) (hr : ∀ p ∈ ps, 0 ≤ p.a ∧ p.a < (n : Int)) (hP : ∀ p ∈ ps, P p.a = true) (hm : S m) (hmin : ∀ y, S y → m ≤ y) : Lr ps n P (os ++ [(m : Int)]) (fun y => S y ∧ y ≠ m) ms (usr ps (m : Int)) := by
  have hR := (h.is m).1 hm
  obtain ⟨⟨h0, h1⟩, h2, h3⟩ := hR
  refine ⟨h.len, fun y hy => ?_, fun y => ?_, fun qs x rs e => ?_, fun y hy => ?_⟩
  · rw [h.cnt y hy, cnE_snoc ps os (m : Int) (y : Int) h2]
    have : cnP [] (y : Int) = 0 := rfl
    omega
  · rw [h.rdy]
    simp only [List.mem_append, List.mem_singleton, not_or]
    constructor
    · rintro ⟨⟨a, b, c, d⟩, e⟩; exact ⟨a, b, ⟨c, by omega⟩, d⟩
    · rintro ⟨a, b, ⟨c, e⟩, d⟩; exact ⟨⟨a, b, c, d⟩, by omega⟩
  · rcases List.eq_nil_or_concat rs with rfl | ⟨rs', z, rfl⟩
    · obtain ⟨rfl, e2⟩ := List.append_inj' e rfl
      cases e2
      refine ⟨⟨⟨h0, h1⟩, h2, h3⟩, fun y hy => ?_⟩
      have hy0 := hy.1.1.1
      obtain ⟨y, rfl⟩ : ∃ y' : Nat, y = (y' : Int) := ⟨y.toNat, by omega⟩
      have := hmin y ((h.is y).2 hy)
      omega
    · rw [List.concat_eq_append, ← List.cons_append, ← List.append_assoc] at e
      obtain ⟨e1, -⟩ := List.append_inj' e rfl
      exact h.gd qs x rs' e1
  · have he := mem_usr.1 hy
    have hr1 := hr _ he
    refine ⟨hr1.1, hr1.2, hP _ he, fun hy2 => ?_⟩
    rcases List.mem_append.1 hy2 with hy2 | hy2
    · obtain ⟨i, hi⟩ := List.getElem?_of_mem hy2
      obtain ⟨l1, e1⟩ := List.getElem?_eq_some_iff.1 hi
      have hsp : os = os.take i ++ y :: os.drop (i + 1) := by rw [← e1, List.getElem_cons_drop, List.take_append_drop]
      have := (h.gd _ _ _ hsp).1.2.2 (m : Int) he
      exact h2 (List.mem_of_mem_take this)
    · rw [List.mem_singleton] at hy2
      subst hy2
      exact h2 (h3 _ he)
theorem Lr.pos {ps : List Pr} {n y : Nat} {P : Int → Bool} {os ms p : List Int} {S : Nat → Prop} (h : Lr ps n P os S ms ((y : Int) :: p)) : y < n ∧ 1 ≤ ms[y]! ∧ ¬ S y ∧ P (y : Int) = true ∧ (y : Int) ∉ os := by
  have h1 := h.pnd (y : Int) List.mem_cons_self
  have h2 : y < n := by omega
  have h3 := h.cnt y h2
  rw [cnP_cons, if_pos rfl] at h3
  refine ⟨h2, by omega, fun hS => ?_, h1.2.2.1, h1.2.2.2⟩
  have := ((h.rdy y).1 hS).2.2.2
  omega
theorem Lr.dec {ps : List Pr} {n y : Nat} {P : Int → Bool} {os ms p : List Int} {S : Nat → Prop} (h : Lr ps n P os S ms ((y : Int) :: p)) : Lr ps n P os (fun z => S z ∨ (z = y ∧ ms[y]! - 1 = 0)) (ms.set y (ms[y]! - 1)) p := by
  obtain ⟨hyn, hp1, hyS, hyP, hyo⟩ := h.pos
  have hl : y < ms.length := by rw [h.len]; exact hyn
  refine ⟨by rw [List.length_set]; exact h.len, fun z hz => ?_, fun z => ?_, h.gd, fun z hz => h.pnd z (List.mem_cons_of_mem _ hz)⟩
  · have h3 := h.cnt z hz
    rw [cnP_cons] at h3
    rw [get_set ms y z _ hl]
    by_cases e : z = y
    · subst e; rw [if_pos rfl] at h3 ⊢; omega
    · rw [if_neg (by omega)] at h3; rw [if_neg e]; omega
  · rw [h.rdy, get_set ms y z _ hl]
    by_cases e : z = y
    · subst e
      rw [if_pos rfl]
      constructor
      · rintro (⟨a, b, c, d⟩ | ⟨-, d⟩)
        · omega
        · exact ⟨hyn, hyP, hyo, d⟩
      · rintro ⟨a, b, c, d⟩; exact .inr ⟨rfl, d⟩
    · rw [if_neg e]
      constructor
      · rintro (h | ⟨d, -⟩)
        · exact h
        · exact absurd d e
      · exact .inl
theorem Lr.congr {ps : List Pr} {n : Nat} {P : Int → Bool} {os ms p : List Int} {S S' : Nat → Prop} (h : Lr ps n P os S ms p) (hS : ∀ y, S y ↔ S' y) : Lr ps n P os S' ms p :=
  ⟨h.len, h.cnt, fun y => (hS y).symm.trans (h.rdy y), h.gd, h.pnd⟩
theorem Lr.stop {ps : List Pr} {n : Nat} {P : Int → Bool} {os ms : List Int} {S : Nat → Prop} (h : Lr ps n P os S ms []) (hS : ∀ y, ¬ S y) : Gn (fun x => (0 ≤ x ∧ x < (n : Int)) ∧ P x = true) (fun x z => (⟨x, z⟩ : Pr) ∈ ps) os :=
  ⟨h.gd, fun x hx => by
    have hx0 := hx.1.1.1
    obtain ⟨y, rfl⟩ : ∃ y : Nat, x = (y : Int) := ⟨x.toNat, by omega⟩
    exact hS y ((h.is y).2 hx)⟩
theorem Lr.start {ps : List Pr} {n : Nat} {P : Int → Bool} {ms : List Int} (hl : ms.length = n) (hc : ∀ y : Nat, y < n → ms[y]! = (cnE ps [] (y : Int) : Int)) : Lr ps n P [] (fun y => y < n ∧ P (y : Int) = true ∧ ms[y]! = 0) ms [] :=
  ⟨hl, fun y hy => by rw [hc y hy]; simp [cnP], fun y => by simp, fun qs x rs e => by simp at e, fun y hy => by cases hy⟩
theorem Lr.few {ps : List Pr} {n : Nat} {P : Int → Bool} {os ms p : List Int} {S : Nat → Prop} (h : Lr ps n P os S ms p) : os.Nodup ∧ (∀ y ∈ os, 0 ≤ y ∧ y < (n : Int)) ∧ os.length ≤ n := by
  have hr : ∀ y ∈ os, 0 ≤ y ∧ y < (n : Int) := fun y hy => by
    obtain ⟨i, hi⟩ := List.getElem?_of_mem hy
    obtain ⟨l1, e1⟩ := List.getElem?_eq_some_iff.1 hi
    have hsp : os = os.take i ++ y :: os.drop (i + 1) := by rw [← e1, List.getElem_cons_drop, List.take_append_drop]
    exact (h.gd _ _ _ hsp).1.1.1
  have hn : os.Nodup := by
    refine List.pairwise_iff_getElem.2 fun i j hi hj hij e => ?_
    have hsp : os = os.take j ++ os[j] :: os.drop (j + 1) := by rw [List.getElem_cons_drop, List.take_append_drop]
    have := (h.gd _ _ _ hsp).1.2.1
    refine this (List.mem_of_getElem? (i := i) ?_)
    rw [List.getElem?_take, if_pos hij, List.getElem?_eq_getElem hi, e]
  exact ⟨hn, hr, nodup_le hn hr⟩
/-- what is left where not all came: those of which something is not there -/
theorem Lr.left {ps : List Pr} {n : Nat} {P : Int → Bool} {os ms : List Int} {S : Nat → Prop} (h : Lr ps n P os S ms []) {x : Nat} (hx : x < n) : ms[x]! = 0 ↔ ∀ z, (⟨(x : Int), z⟩ : Pr) ∈ ps → z ∈ os := by
  rw [h.cnt x hx, ← cnE_zero]
  have : cnP [] (x : Int) = 0 := rfl
  omega
end Go.Proofs.Ytgijcbipnjmhgab

namespace Go.Proofs.Ytgijcbipnjmhgab
open Go.ChangeShapes Go.WideShapes Go.ChangeAt Go.RowKit
set_option linter.unusedVariables false
set_option linter.unusedSimpArgs false

/-- what goes out of a thing, as often as it does -/
def nd (ps : List Pr) (x : Nat) : List Int := (ps.filter fun p => decide (p.a = (x : Int))).map Pr.b
theorem mem_nd {ps : List Pr} {x : Nat} {y : Int} : y ∈ nd ps x ↔ (⟨(x : Int), y⟩ : Pr) ∈ ps := by
  unfold nd
  rw [List.mem_map]
  constructor
  · rintro ⟨⟨a, b⟩, hp, rfl⟩
    rw [List.mem_filter] at hp
    have h2 : a = (x : Int) := by simpa using hp.2
    rw [← h2]
    exact hp.1
  · intro h
    exact ⟨_, List.mem_filter.2 ⟨h, by simp⟩, rfl⟩
theorem nd_swap (ps : List Pr) (x : Nat) : nd (ps.map swapP) x = usr ps (x : Int) := by
  unfold nd usr
  rw [List.filter_map, List.map_map]
  rfl
theorem nd_snoc (ps : List Pr) (x z : Nat) (b : Int) : nd (ps ++ [⟨(x : Int), b⟩]) z = nd ps z ++ if x = z then [b] else [] := by
  unfold nd
  rw [List.filter_append, List.map_append]
  congr 1
  by_cases e : x = z
  · rw [if_pos e, List.filter_cons_of_pos (by simp [e])]; rfl
  · rw [if_neg e, List.filter_cons_of_neg (by simp; omega)]; rfl
theorem nd_len (ps : List Pr) (x : Nat) : (nd ps x).length ≤ ps.length := by
  unfold nd
  rw [List.length_map]
  exact List.length_filter_le _ _
/-- the lists of what goes out of each thing, as they are -/
def AdX (K : IntKind) (ps : List Pr) (rs : List Rr) : Prop := ∀ (x : Nat) (r : Rr), rs[x]? = some r → ∃ ys : List Int, r.n = ys.length ∧ r.xs = ys.map (Value.int K) ∧ ys.length ≤ ps.length ∧ ys = nd ps x
theorem AdX.start {K : IntKind} (n : Nat) : AdX K [] (List.replicate n ⟨.slice none 0 0, 0, []⟩) := by
  intro x r hr
  rw [List.getElem?_replicate] at hr
  split at hr
  · rw [← Option.some.inj hr]; exact ⟨[], rfl, rfl, Nat.le_refl _, rfl⟩
  · cases hr
theorem AdX.more {K : IntKind} {ps : List Pr} {rs : List Rr} (h : AdX K ps rs) {x : Nat} {r : Rr} (hr : rs[x]? = some r) (v : Value) (b : Int) : AdX K (ps ++ [⟨(x : Int), b⟩]) (rs.set x ⟨v, r.n + 1, r.xs ++ [Value.int K b]⟩) := by
  intro z q hq
  rw [List.getElem?_set] at hq
  by_cases hz : x = z
  · subst hz
    rw [if_pos rfl, if_pos (List.getElem?_eq_some_iff.1 hr).1] at hq
    rw [← Option.some.inj hq]
    obtain ⟨ys, h1, h2, h3, h4⟩ := h x r hr
    exact ⟨ys ++ [b], by rw [List.length_append, h1]; rfl, by rw [List.map_append, h2]; rfl, by simp; omega, by rw [nd_snoc, if_pos rfl, h4]⟩
  · rw [if_neg hz] at hq
    obtain ⟨ys, h1, h2, h3, h4⟩ := h z q hq
    exact ⟨ys, h1, h2, by simp; omega, by rw [nd_snoc, if_neg hz, List.append_nil, h4]⟩
set_option maxRecDepth 1000000 in
set_option maxHeartbeats 4000000 in
theorem rows1X_any (n cap : Nat) (a : Option Addr) (ps : List Pr) (w : World) (hL : LiesA w a ps) (hn : n ≤ 131072) (hm : ps.length ≤ 8796093022208) (hr : ∀ p ∈ ps, (0 ≤ p.a ∧ p.a < (n : Int)) ∧ (0 ≤ p.b ∧ p.b < (n : Int))) :
    Calls Try.prog 28 #[.int .i64 (n : Int), .slice a ps.length cap, .int .i64 1] w fun e w' => e = .returned (.slice (some ⟨w.heap.size, 0, none⟩) n n) ∧ ∃ rs, Lw w.heap.size w.heap.size n w w' rs ∧ AdX .i64 ps rs := by
  obtain ⟨i0, hi0, hz0, hz1, hz2⟩ := info_parts infoRowI
  obtain ⟨i1, hi1, hy0, hy1, hy2⟩ := info_parts infoInt
  have HL : Hid (LiesA w a ps) := hL
  have HRg : Hid (∀ p ∈ ps, (0 ≤ p.a ∧ p.a < (n : Int)) ∧ (0 ≤ p.b ∧ p.b < (n : Int))) := hr
  clear hL hr
  go_enter Try.func28, Try.ntmps28
  go_wp2_with (at_make; refine wpList_make_full _ rfl _ _ 30 rfl w.heap.size 24 i0 (.slice none 0 0) 1 Try.underlying30 hi0 hz0 hz1 _ _ _ _ n rfl rfl rfl rfl (by rw [hz2]; omega) (by unfold maxLen; omega) (Nat.le_refl _) ?_; intro w1 hown1 hgr1; have L1 : Hid (Lw w.heap.size w.heap.size n w w1 (List.replicate n ⟨.slice none 0 0, 0, []⟩)) := ⟨She.made (by have h9 := rep_made (.slice none 0 0) n; rw [show (Value.slice none 0 0).cells = #[.slice none 0 0] by rfl] at hown1; rw [h9] at hown1; exact hown1), by simp, (Below.refl _ w).grown hgr1 (Nat.le_refl _) (fun k h => by cases h), hgr1.size⟩; clear hown1 hgr1)
  go_loopg [8] ps.length (fun gk si wr => ∃ (k : Nat) (rs : List Rr), gk = ps.length - k ∧ si = .int .i64 (k : Int) ∧ k ≤ ps.length ∧ Lw w.heap.size w.heap.size n w wr rs ∧ AdX .i64 (ps.take k) rs)
  case atStart => exact ⟨0, _, rfl, rfl, Nat.zero_le _, L1.out, AdX.start n⟩
  case round =>
    obtain ⟨k, rs, hgk, rfl, hk, hLv, hAd⟩ := hrel
    clear L1
    have LV : Hid (Lw w.heap.size w.heap.size n w wr rs) := hLv
    have HA : Hid (AdX .i64 (ps.take k) rs) := hAd
    clear hLv hAd
    by_cases hkp : k < ps.length
    · have hkp' : (k : Int) < (ps.length : Int) := by omega
      obtain ⟨p, hp⟩ : ∃ p, ps[k]? = some p := ⟨_, List.getElem?_eq_getElem hkp⟩
      obtain ⟨b, o, ha, hLi⟩ : ∃ b o, a = some ⟨b, o, none⟩ ∧ Lies w b o ps := by
        rcases HL.out with h | h
        · rw [h] at hkp; exact absurd hkp (Nat.not_lt_zero _)
        · exact h
      subst ha
      obtain ⟨⟨ha0, ha1⟩, hb0, hb1⟩ := HRg.out p (List.mem_of_getElem? hp)
      obtain ⟨pa, pb⟩ := p
      obtain ⟨x, rfl⟩ : ∃ x : Nat, pa = (x : Int) := ⟨pa.toNat, by simp only at ha0 hb0; omega⟩
      simp only at ha0 ha1 hb0 hb1
      have HP : Hid (ps[k]? = some ⟨(x : Int), pb⟩) := hp
      have HLi : Hid (Lies wr b o ps) := hLi.below LV.out.bel hLi.1
      have HBW : Hid (b < w.heap.size ∧ w.heap.size ≤ wr.heap.size) := ⟨hLi.1, LV.out.base⟩
      obtain ⟨d0, d1⟩ := HLi.out.pr hp
      simp only at d0 d1
      obtain ⟨r, hrx⟩ : ∃ r, rs[x]? = some r := ⟨_, List.getElem?_eq_getElem (by have := LV.out.len; omega)⟩
      have HRX : Hid (rs[x]? = some r) := hrx
      clear hLi hp hrx
      go_upto_region 6 with fail
      obtain ⟨a1, c1, hv1, -, -⟩ := own_slice (LV.out.she.get HRX.out)
      obtain ⟨rv, rn, rx⟩ := r
      simp only at hv1
      subst hv1
      obtain ⟨ys, hy1, hy2', hy3, hy4⟩ := HA.out x _ HRX.out
      simp only at hy1 hy2'
      have hrn : rn ≤ 8796093022208 := by rw [hy1]; rw [List.length_take] at hy3; omega
      clear hy1 hy2' hy3 hy4 ys
      have hx0 : (0 : Int) ≤ (x : Int) := by omega
      have hxn2 : (x : Int) < (n : Int) := by omega
      have hk0 : (0 : Int) ≤ (k : Int) := by omega
      have HSr : wr.cell? ⟨b, o + k * 2 + 1, none⟩ = some (.int .i64 pb) ∧ wr.cell? ⟨w.heap.size, x, none⟩ = some (.slice a1 rn c1) := ⟨d1, (LV.out.cell HRX.out).1⟩
      refine wp_region_G (fun z => z.cell? ⟨b, o + k * 2 + 1, none⟩ = some (.int .i64 pb) ∧ z.cell? ⟨w.heap.size, x, none⟩ = some (.slice a1 rn c1)) 15 (by kernel_rfl) ?_
      refine wpAnyG_take (i := 0) (v := .slice (some ⟨w.heap.size, 0, none⟩) n n) rfl (by kernel_rfl) (by kernel_rfl) (by kernel_rfl) (fun _ _ _ h => h) (by kernel_rfl) (by kernel_rfl) (by kernel_rfl) (Or.inl ⟨by rfl, fun z hz => ?_⟩) HSr ?_
      · obtain ⟨hz0, hz1⟩ := hz
        go_simp
      try simp only [Act.put, List.setIfInBounds_toArray, List.set_cons_zero, List.set_cons_succ]
      refine wpAnyG_take (i := 1) (v := .int .i64 (x : Int)) rfl (by kernel_rfl) (by kernel_rfl) (by kernel_rfl) (fun _ _ _ h => h) (by kernel_rfl) (by kernel_rfl) (by kernel_rfl) (Or.inl ⟨by rfl, fun z hz => ?_⟩) HSr ?_
      · obtain ⟨hz0, hz1⟩ := hz
        go_simp
      try simp only [Act.put, List.setIfInBounds_toArray, List.set_cons_zero, List.set_cons_succ]
      refine wpAnyG_take (i := 2) (v := .slice (some ⟨w.heap.size, 0, none⟩) n n) rfl (by kernel_rfl) (by kernel_rfl) (by kernel_rfl) (fun _ _ _ h => h) (by kernel_rfl) (by kernel_rfl) (by kernel_rfl) (Or.inl ⟨by rfl, fun z hz => ?_⟩) HSr ?_
      · obtain ⟨hz0, hz1⟩ := hz
        go_simp
      try simp only [Act.put, List.setIfInBounds_toArray, List.set_cons_zero, List.set_cons_succ]
      refine wpAnyG_take (i := 3) (v := .int .i64 (x : Int)) rfl (by kernel_rfl) (by kernel_rfl) (by kernel_rfl) (fun _ _ _ h => h) (by kernel_rfl) (by kernel_rfl) (by kernel_rfl) (Or.inl ⟨by rfl, fun z hz => ?_⟩) HSr ?_
      · obtain ⟨hz0, hz1⟩ := hz
        go_simp
      try simp only [Act.put, List.setIfInBounds_toArray, List.set_cons_zero, List.set_cons_succ]
      refine wpAnyG_take (i := 4) (v := .pointer (some ⟨w.heap.size, x, none⟩)) rfl (by kernel_rfl) (by kernel_rfl) (by kernel_rfl) (fun _ _ _ h => h) (by kernel_rfl) (by kernel_rfl) (by kernel_rfl) (Or.inl ⟨by rfl, fun z hz => ?_⟩) HSr ?_
      · obtain ⟨hz0, hz1⟩ := hz
        go_simp
      try simp only [Act.put, List.setIfInBounds_toArray, List.set_cons_zero, List.set_cons_succ]
      refine wpAnyG_take (i := 5) (v := .slice a1 rn c1) rfl (by kernel_rfl) (by kernel_rfl) (by kernel_rfl) (fun _ _ _ h => h) (by kernel_rfl) (by kernel_rfl) (by kernel_rfl) (Or.inl ⟨by rfl, fun z hz => ?_⟩) HSr ?_
      · obtain ⟨hz0, hz1⟩ := hz
        go_simp
      try simp only [Act.put, List.setIfInBounds_toArray, List.set_cons_zero, List.set_cons_succ]
      refine wpAnyG_take (i := 6) (v := .slice (some ⟨b, o, none⟩) ps.length cap) rfl (by kernel_rfl) (by kernel_rfl) (by kernel_rfl) (fun _ _ _ h => h) (by kernel_rfl) (by kernel_rfl) (by kernel_rfl) (Or.inl ⟨by rfl, fun z hz => ?_⟩) HSr ?_
      · obtain ⟨hz0, hz1⟩ := hz
        go_simp
      try simp only [Act.put, List.setIfInBounds_toArray, List.set_cons_zero, List.set_cons_succ]
      refine wpAnyG_take (i := 7) (v := .int .i64 (k : Int)) rfl (by kernel_rfl) (by kernel_rfl) (by kernel_rfl) (fun _ _ _ h => h) (by kernel_rfl) (by kernel_rfl) (by kernel_rfl) (Or.inl ⟨by rfl, fun z hz => ?_⟩) HSr ?_
      · obtain ⟨hz0, hz1⟩ := hz
        go_simp
      try simp only [Act.put, List.setIfInBounds_toArray, List.set_cons_zero, List.set_cons_succ]
      refine wpAnyG_take (i := 8) (v := .int .i64 1) rfl (by kernel_rfl) (by kernel_rfl) (by kernel_rfl) (fun _ _ _ h => h) (by kernel_rfl) (by kernel_rfl) (by kernel_rfl) (Or.inl ⟨by rfl, fun z hz => ?_⟩) HSr ?_
      · obtain ⟨hz0, hz1⟩ := hz
        go_simp
      try simp only [Act.put, List.setIfInBounds_toArray, List.set_cons_zero, List.set_cons_succ]
      refine wpAnyG_take (i := 9) (v := .pointer (some ⟨b, o + k * 2, none⟩)) rfl (by kernel_rfl) (by kernel_rfl) (by kernel_rfl) (fun _ _ _ h => h) (by kernel_rfl) (by kernel_rfl) (by kernel_rfl) (Or.inl ⟨by rfl, fun z hz => ?_⟩) HSr ?_
      · obtain ⟨hz0, hz1⟩ := hz
        go_simp
      try simp only [Act.put, List.setIfInBounds_toArray, List.set_cons_zero, List.set_cons_succ]
      refine wpAnyG_take (i := 10) (v := .pointer (some ⟨b, o + k * 2 + 1, none⟩)) rfl (by kernel_rfl) (by kernel_rfl) (by kernel_rfl) (fun _ _ _ h => h) (by kernel_rfl) (by kernel_rfl) (by kernel_rfl) (Or.inl ⟨by rfl, fun z hz => ?_⟩) HSr ?_
      · obtain ⟨hz0, hz1⟩ := hz
        go_simp
      try simp only [Act.put, List.setIfInBounds_toArray, List.set_cons_zero, List.set_cons_succ]
      refine wpAnyG_take (i := 11) (v := .int .i64 pb) rfl (by kernel_rfl) (by kernel_rfl) (by kernel_rfl) (fun _ _ _ h => h) (by kernel_rfl) (by kernel_rfl) (by kernel_rfl) (Or.inl ⟨by rfl, fun z hz => ?_⟩) HSr ?_
      · obtain ⟨hz0, hz1⟩ := hz
        go_simp
      try simp only [Act.put, List.setIfInBounds_toArray, List.set_cons_zero, List.set_cons_succ]
      refine wpAnyG_one (i := 12) (by kernel_rfl) rfl (fun K hK0 => ?_)
      have hK : Hid _ := hK0
      clear hK0
      go_simp
      obtain ⟨WA, hWA⟩ : ∃ WA, (wr.alloc (.cells #[Value.int .i64 pb] 3)).drew = WA := ⟨_, rfl⟩
      have hA : Below wr.heap.size wr WA := by rw [← hWA]; exact ((Below.refl _ wr).alloc (Nat.le_refl _) _).drew
      have HNW : Hid (∀ j u, [Value.int .i64 pb][j]? = some u → WA.cell? ((⟨wr.heap.size, 0, none⟩ : Addr).add j) = some u) := by unfold Hid; rw [← hWA]; exact cells_newR wr [Value.int .i64 pb] 3
      have HZA : Hid (WA.heap.size = wr.heap.size + 1) := by unfold Hid; rw [← hWA]; show (wr.alloc _).heap.size = _; simp
      have LA : Hid (Lw w.heap.size w.heap.size n w WA rs) := LV.out.below hA
      have HSa : WA.cell? ⟨b, o + k * 2 + 1, none⟩ = some (.int .i64 pb) ∧ WA.cell? ⟨w.heap.size, x, none⟩ = some (.slice a1 rn c1) := ⟨(hA.cell (p := ⟨b, o + k * 2 + 1, none⟩) HLi.out.1).trans HSr.1, (LA.out.cell HRX.out).1⟩
      rw [hWA]
      clear hWA
      refine hK.out _ _ (fun _ => HSa) ?_
      clear hK K
      try simp only [Act.put, List.setIfInBounds_toArray, List.set_cons_zero, List.set_cons_succ]
      refine wpAnyG_one (i := 13) (by kernel_rfl) rfl (fun K hK0 => ?_)
      have hK : Hid _ := hK0
      clear hK0
      refine step_append_lies _ (by rfl) _ _ _ (by rfl) w.heap.size 3 i1 (.int .i64 0) 1 8 Try.underlying24 hi1 hy0 hy1 hy2 rfl (by omega) (.slice a1 rn c1) rn rx (by rfl) (LA.out.she.get HRX.out) ⟨wr.heap.size, 0, none⟩ 1 1 [Value.int .i64 pb] (by rfl) (by rfl) HNW.out (by intro u hu; simp at hu; subst hu; rfl) (by omega) (by unfold maxLen; omega) (by omega) LA.out.base (wr.heap.size + 1) HZA.out ?_
      intro gg cp w9 hown9 hgrow9 hat9 hlt9
      have hrb : (Value.slice a1 rn c1).ownBlock ≠ some b := fun h => by
        have h1 := (LV.out.she.get HRX.out).lt b h
        have h2 := HBW.out
        omega
      have hrV : (Value.slice a1 rn c1).ownBlock ≠ some w.heap.size := fun h => own_otherR LV.out.she.outV (LV.out.she.get HRX.out) (by decide) h rfl
      have hVl : w.heap.size < WA.heap.size := (LA.out.she.outV.lt w.heap.size rfl).2
      have hbl : b < WA.heap.size := by have := HBW.out; omega
      have cv9 : w9.cell? ⟨w.heap.size, x, none⟩ = some (.slice a1 rn c1) := (hgrow9.cell_far ⟨w.heap.size, x, none⟩ hVl (fun e => hrV e.symm)).trans HSa.2
      have fv9 : w9.frozen? ⟨w.heap.size, x, none⟩ = false := (hgrow9.frozen_far ⟨w.heap.size, x, none⟩ hVl (fun e => hrV e.symm)).trans (LA.out.cell HRX.out).2
      have HS9 : w9.cell? ⟨b, o + k * 2 + 1, none⟩ = some (.int .i64 pb) ∧ w9.cell? ⟨w.heap.size, x, none⟩ = some (.slice a1 rn c1) := ⟨(hgrow9.cell_far ⟨b, o + k * 2 + 1, none⟩ hbl (fun e => hrb e.symm)).trans HSa.1, cv9⟩
      have L9 : Hid (Lw w.heap.size w.heap.size n w (w9.setCell ⟨w.heap.size, x, none⟩ (.slice (some ⟨gg, 0, none⟩) (rn + 1) cp)) (rs.set x ⟨.slice (some ⟨gg, 0, none⟩) (rn + 1) cp, rn + 1, rx ++ [Value.int .i64 pb]⟩)) := LA.out.put HRX.out hown9 hgrow9 (hat9.elim (fun h => .inl h.symm) (fun h => .inr (by rw [h, HZA.out]; rfl)))
      clear hown9 hgrow9 hat9 hlt9
      refine hK.out _ _ (fun _ => HS9) ?_
      clear hK K
      try simp only [Act.put, List.setIfInBounds_toArray, List.set_cons_zero, List.set_cons_succ]
      refine wpAnyG_one (i := 14) (by kernel_rfl) rfl (fun K hK0 => ?_)
      have hK : Hid _ := hK0
      clear hK0
      go_simp
      refine hK.out _ _ (fun _ => HS9) ?_
      clear hK K
      try simp only [Act.put, List.setIfInBounds_toArray, List.set_cons_zero, List.set_cons_succ]
      refine wpAnyG_one (i := 15) (by kernel_rfl) rfl (fun K hK0 => ?_)
      have hK : Hid _ := hK0
      clear hK0
      go_simp
      refine hK.out _ _ (fun h => Bool.noConfusion (show true = false from h)) ?_
      clear hK K
      try simp only [Act.put, List.setIfInBounds_toArray, List.set_cons_zero, List.set_cons_succ]
      refine wpAnyG_done (by kernel_rfl) ?_ _
      go_wp2
      go_roundg (ps.length - (k + 1))
      case measure => omega
      case rel =>
        refine ⟨k + 1, _, rfl, by go_num, by omega, L9.out, ?_⟩
        have h9 := HA.out.more HRX.out (.slice (some ⟨gg, 0, none⟩) (rn + 1) cp) pb
        rw [List.take_add_one, HP.out]
        exact h9
    · have hkp' : ¬ (k : Int) < (ps.length : Int) := by omega
      have HA2 : Hid (AdX .i64 ps rs) := by unfold Hid; have h9 := HA.out; rw [List.take_of_length_le (by first | omega | (rw [List.length_map]; omega))] at h9; exact h9
      go_wp2
      go_ret
      exact ⟨rfl, rs, LV.out, HA2.out⟩
set_option maxRecDepth 1000000 in
set_option maxHeartbeats 4000000 in
theorem rows0X_any (n cap : Nat) (a : Option Addr) (ps : List Pr) (w : World) (hL : LiesA w a ps) (hn : n ≤ 131072) (hm : ps.length ≤ 8796093022208) (hr : ∀ p ∈ ps, (0 ≤ p.a ∧ p.a < (n : Int)) ∧ (0 ≤ p.b ∧ p.b < (n : Int))) :
    Calls Try.prog 28 #[.int .i64 (n : Int), .slice a ps.length cap, .int .i64 0] w fun e w' => e = .returned (.slice (some ⟨w.heap.size, 0, none⟩) n n) ∧ ∃ rs, Lw w.heap.size w.heap.size n w w' rs ∧ AdX .i64 (ps.map swapP) rs := by
  obtain ⟨i0, hi0, hz0, hz1, hz2⟩ := info_parts infoRowI
  obtain ⟨i1, hi1, hy0, hy1, hy2⟩ := info_parts infoInt
  have HL : Hid (LiesA w a ps) := hL
  have HRg : Hid (∀ p ∈ ps, (0 ≤ p.a ∧ p.a < (n : Int)) ∧ (0 ≤ p.b ∧ p.b < (n : Int))) := hr
  clear hL hr
  go_enter Try.func28, Try.ntmps28
  go_wp2_with (at_make; refine wpList_make_full _ rfl _ _ 30 rfl w.heap.size 24 i0 (.slice none 0 0) 1 Try.underlying30 hi0 hz0 hz1 _ _ _ _ n rfl rfl rfl rfl (by rw [hz2]; omega) (by unfold maxLen; omega) (Nat.le_refl _) ?_; intro w1 hown1 hgr1; have L1 : Hid (Lw w.heap.size w.heap.size n w w1 (List.replicate n ⟨.slice none 0 0, 0, []⟩)) := ⟨She.made (by have h9 := rep_made (.slice none 0 0) n; rw [show (Value.slice none 0 0).cells = #[.slice none 0 0] by rfl] at hown1; rw [h9] at hown1; exact hown1), by simp, (Below.refl _ w).grown hgr1 (Nat.le_refl _) (fun k h => by cases h), hgr1.size⟩; clear hown1 hgr1)
  go_loopg [8] ps.length (fun gk si wr => ∃ (k : Nat) (rs : List Rr), gk = ps.length - k ∧ si = .int .i64 (k : Int) ∧ k ≤ ps.length ∧ Lw w.heap.size w.heap.size n w wr rs ∧ AdX .i64 ((ps.map swapP).take k) rs)
  case atStart => exact ⟨0, _, rfl, rfl, Nat.zero_le _, L1.out, AdX.start n⟩
  case round =>
    obtain ⟨k, rs, hgk, rfl, hk, hLv, hAd⟩ := hrel
    clear L1
    have LV : Hid (Lw w.heap.size w.heap.size n w wr rs) := hLv
    have HA : Hid (AdX .i64 ((ps.map swapP).take k) rs) := hAd
    clear hLv hAd
    by_cases hkp : k < ps.length
    · have hkp' : (k : Int) < (ps.length : Int) := by omega
      obtain ⟨p, hp⟩ : ∃ p, ps[k]? = some p := ⟨_, List.getElem?_eq_getElem hkp⟩
      obtain ⟨b, o, ha, hLi⟩ : ∃ b o, a = some ⟨b, o, none⟩ ∧ Lies w b o ps := by
        rcases HL.out with h | h
        · rw [h] at hkp; exact absurd hkp (Nat.not_lt_zero _)
        · exact h
      subst ha
      obtain ⟨⟨ha0, ha1⟩, hb0, hb1⟩ := HRg.out p (List.mem_of_getElem? hp)
      obtain ⟨pb, pa⟩ := p
      obtain ⟨x, rfl⟩ : ∃ x : Nat, pa = (x : Int) := ⟨pa.toNat, by simp only at ha0 hb0; omega⟩
      simp only at ha0 ha1 hb0 hb1
      have HP : Hid (ps[k]? = some ⟨pb, (x : Int)⟩) := hp
      have HLi : Hid (Lies wr b o ps) := hLi.below LV.out.bel hLi.1
      have HBW : Hid (b < w.heap.size ∧ w.heap.size ≤ wr.heap.size) := ⟨hLi.1, LV.out.base⟩
      obtain ⟨d0, d1⟩ := HLi.out.pr hp
      simp only at d0 d1
      obtain ⟨r, hrx⟩ : ∃ r, rs[x]? = some r := ⟨_, List.getElem?_eq_getElem (by have := LV.out.len; omega)⟩
      have HRX : Hid (rs[x]? = some r) := hrx
      clear hLi hp hrx
      go_upto_region 6 with fail
      obtain ⟨a1, c1, hv1, -, -⟩ := own_slice (LV.out.she.get HRX.out)
      obtain ⟨rv, rn, rx⟩ := r
      simp only at hv1
      subst hv1
      obtain ⟨ys, hy1, hy2', hy3, hy4⟩ := HA.out x _ HRX.out
      simp only at hy1 hy2'
      have hrn : rn ≤ 8796093022208 := by rw [hy1]; rw [List.length_take] at hy3; omega
      clear hy1 hy2' hy3 hy4 ys
      have hx0 : (0 : Int) ≤ (x : Int) := by omega
      have hxn2 : (x : Int) < (n : Int) := by omega
      have hk0 : (0 : Int) ≤ (k : Int) := by omega
      have HSr : wr.cell? ⟨b, o + k * 2, none⟩ = some (.int .i64 pb) ∧ wr.cell? ⟨w.heap.size, x, none⟩ = some (.slice a1 rn c1) := ⟨d0, (LV.out.cell HRX.out).1⟩
      refine wp_region_G (fun z => z.cell? ⟨b, o + k * 2, none⟩ = some (.int .i64 pb) ∧ z.cell? ⟨w.heap.size, x, none⟩ = some (.slice a1 rn c1)) 15 (by kernel_rfl) ?_
      refine wpAnyG_take (i := 0) (v := .slice (some ⟨w.heap.size, 0, none⟩) n n) rfl (by kernel_rfl) (by kernel_rfl) (by kernel_rfl) (fun _ _ _ h => h) (by kernel_rfl) (by kernel_rfl) (by kernel_rfl) (Or.inl ⟨by rfl, fun z hz => ?_⟩) HSr ?_
      · obtain ⟨hz0, hz1⟩ := hz
        go_simp
      try simp only [Act.put, List.setIfInBounds_toArray, List.set_cons_zero, List.set_cons_succ]
      refine wpAnyG_take (i := 1) (v := .int .i64 (x : Int)) rfl (by kernel_rfl) (by kernel_rfl) (by kernel_rfl) (fun _ _ _ h => h) (by kernel_rfl) (by kernel_rfl) (by kernel_rfl) (Or.inl ⟨by rfl, fun z hz => ?_⟩) HSr ?_
      · obtain ⟨hz0, hz1⟩ := hz
        go_simp
      try simp only [Act.put, List.setIfInBounds_toArray, List.set_cons_zero, List.set_cons_succ]
      refine wpAnyG_take (i := 2) (v := .slice (some ⟨w.heap.size, 0, none⟩) n n) rfl (by kernel_rfl) (by kernel_rfl) (by kernel_rfl) (fun _ _ _ h => h) (by kernel_rfl) (by kernel_rfl) (by kernel_rfl) (Or.inl ⟨by rfl, fun z hz => ?_⟩) HSr ?_
      · obtain ⟨hz0, hz1⟩ := hz
        go_simp
      try simp only [Act.put, List.setIfInBounds_toArray, List.set_cons_zero, List.set_cons_succ]
      refine wpAnyG_take (i := 3) (v := .int .i64 (x : Int)) rfl (by kernel_rfl) (by kernel_rfl) (by kernel_rfl) (fun _ _ _ h => h) (by kernel_rfl) (by kernel_rfl) (by kernel_rfl) (Or.inl ⟨by rfl, fun z hz => ?_⟩) HSr ?_
      · obtain ⟨hz0, hz1⟩ := hz
        go_simp
      try simp only [Act.put, List.setIfInBounds_toArray, List.set_cons_zero, List.set_cons_succ]
      refine wpAnyG_take (i := 4) (v := .pointer (some ⟨w.heap.size, x, none⟩)) rfl (by kernel_rfl) (by kernel_rfl) (by kernel_rfl) (fun _ _ _ h => h) (by kernel_rfl) (by kernel_rfl) (by kernel_rfl) (Or.inl ⟨by rfl, fun z hz => ?_⟩) HSr ?_
      · obtain ⟨hz0, hz1⟩ := hz
        go_simp
      try simp only [Act.put, List.setIfInBounds_toArray, List.set_cons_zero, List.set_cons_succ]
      refine wpAnyG_take (i := 5) (v := .slice a1 rn c1) rfl (by kernel_rfl) (by kernel_rfl) (by kernel_rfl) (fun _ _ _ h => h) (by kernel_rfl) (by kernel_rfl) (by kernel_rfl) (Or.inl ⟨by rfl, fun z hz => ?_⟩) HSr ?_
      · obtain ⟨hz0, hz1⟩ := hz
        go_simp
      try simp only [Act.put, List.setIfInBounds_toArray, List.set_cons_zero, List.set_cons_succ]
      refine wpAnyG_take (i := 6) (v := .slice (some ⟨b, o, none⟩) ps.length cap) rfl (by kernel_rfl) (by kernel_rfl) (by kernel_rfl) (fun _ _ _ h => h) (by kernel_rfl) (by kernel_rfl) (by kernel_rfl) (Or.inl ⟨by rfl, fun z hz => ?_⟩) HSr ?_
      · obtain ⟨hz0, hz1⟩ := hz
        go_simp
      try simp only [Act.put, List.setIfInBounds_toArray, List.set_cons_zero, List.set_cons_succ]
      refine wpAnyG_take (i := 7) (v := .int .i64 (k : Int)) rfl (by kernel_rfl) (by kernel_rfl) (by kernel_rfl) (fun _ _ _ h => h) (by kernel_rfl) (by kernel_rfl) (by kernel_rfl) (Or.inl ⟨by rfl, fun z hz => ?_⟩) HSr ?_
      · obtain ⟨hz0, hz1⟩ := hz
        go_simp
      try simp only [Act.put, List.setIfInBounds_toArray, List.set_cons_zero, List.set_cons_succ]
      refine wpAnyG_take (i := 8) (v := .int .i64 0) rfl (by kernel_rfl) (by kernel_rfl) (by kernel_rfl) (fun _ _ _ h => h) (by kernel_rfl) (by kernel_rfl) (by kernel_rfl) (Or.inl ⟨by rfl, fun z hz => ?_⟩) HSr ?_
      · obtain ⟨hz0, hz1⟩ := hz
        go_simp
      try simp only [Act.put, List.setIfInBounds_toArray, List.set_cons_zero, List.set_cons_succ]
      refine wpAnyG_take (i := 9) (v := .pointer (some ⟨b, o + k * 2, none⟩)) rfl (by kernel_rfl) (by kernel_rfl) (by kernel_rfl) (fun _ _ _ h => h) (by kernel_rfl) (by kernel_rfl) (by kernel_rfl) (Or.inl ⟨by rfl, fun z hz => ?_⟩) HSr ?_
      · obtain ⟨hz0, hz1⟩ := hz
        go_simp
      try simp only [Act.put, List.setIfInBounds_toArray, List.set_cons_zero, List.set_cons_succ]
      refine wpAnyG_take (i := 10) (v := .pointer (some ⟨b, o + k * 2, none⟩)) rfl (by kernel_rfl) (by kernel_rfl) (by kernel_rfl) (fun _ _ _ h => h) (by kernel_rfl) (by kernel_rfl) (by kernel_rfl) (Or.inl ⟨by rfl, fun z hz => ?_⟩) HSr ?_
      · obtain ⟨hz0, hz1⟩ := hz
        go_simp
      try simp only [Act.put, List.setIfInBounds_toArray, List.set_cons_zero, List.set_cons_succ]
      refine wpAnyG_take (i := 11) (v := .int .i64 pb) rfl (by kernel_rfl) (by kernel_rfl) (by kernel_rfl) (fun _ _ _ h => h) (by kernel_rfl) (by kernel_rfl) (by kernel_rfl) (Or.inl ⟨by rfl, fun z hz => ?_⟩) HSr ?_
      · obtain ⟨hz0, hz1⟩ := hz
        go_simp
      try simp only [Act.put, List.setIfInBounds_toArray, List.set_cons_zero, List.set_cons_succ]
      refine wpAnyG_one (i := 12) (by kernel_rfl) rfl (fun K hK0 => ?_)
      have hK : Hid _ := hK0
      clear hK0
      go_simp
      obtain ⟨WA, hWA⟩ : ∃ WA, (wr.alloc (.cells #[Value.int .i64 pb] 3)).drew = WA := ⟨_, rfl⟩
      have hA : Below wr.heap.size wr WA := by rw [← hWA]; exact ((Below.refl _ wr).alloc (Nat.le_refl _) _).drew
      have HNW : Hid (∀ j u, [Value.int .i64 pb][j]? = some u → WA.cell? ((⟨wr.heap.size, 0, none⟩ : Addr).add j) = some u) := by unfold Hid; rw [← hWA]; exact cells_newR wr [Value.int .i64 pb] 3
      have HZA : Hid (WA.heap.size = wr.heap.size + 1) := by unfold Hid; rw [← hWA]; show (wr.alloc _).heap.size = _; simp
      have LA : Hid (Lw w.heap.size w.heap.size n w WA rs) := LV.out.below hA
      have HSa : WA.cell? ⟨b, o + k * 2, none⟩ = some (.int .i64 pb) ∧ WA.cell? ⟨w.heap.size, x, none⟩ = some (.slice a1 rn c1) := ⟨(hA.cell (p := ⟨b, o + k * 2, none⟩) HLi.out.1).trans HSr.1, (LA.out.cell HRX.out).1⟩
      rw [hWA]
      clear hWA
      refine hK.out _ _ (fun _ => HSa) ?_
      clear hK K
      try simp only [Act.put, List.setIfInBounds_toArray, List.set_cons_zero, List.set_cons_succ]
      refine wpAnyG_one (i := 13) (by kernel_rfl) rfl (fun K hK0 => ?_)
      have hK : Hid _ := hK0
      clear hK0
      refine step_append_lies _ (by rfl) _ _ _ (by rfl) w.heap.size 3 i1 (.int .i64 0) 1 8 Try.underlying24 hi1 hy0 hy1 hy2 rfl (by omega) (.slice a1 rn c1) rn rx (by rfl) (LA.out.she.get HRX.out) ⟨wr.heap.size, 0, none⟩ 1 1 [Value.int .i64 pb] (by rfl) (by rfl) HNW.out (by intro u hu; simp at hu; subst hu; rfl) (by omega) (by unfold maxLen; omega) (by omega) LA.out.base (wr.heap.size + 1) HZA.out ?_
      intro gg cp w9 hown9 hgrow9 hat9 hlt9
      have hrb : (Value.slice a1 rn c1).ownBlock ≠ some b := fun h => by
        have h1 := (LV.out.she.get HRX.out).lt b h
        have h2 := HBW.out
        omega
      have hrV : (Value.slice a1 rn c1).ownBlock ≠ some w.heap.size := fun h => own_otherR LV.out.she.outV (LV.out.she.get HRX.out) (by decide) h rfl
      have hVl : w.heap.size < WA.heap.size := (LA.out.she.outV.lt w.heap.size rfl).2
      have hbl : b < WA.heap.size := by have := HBW.out; omega
      have cv9 : w9.cell? ⟨w.heap.size, x, none⟩ = some (.slice a1 rn c1) := (hgrow9.cell_far ⟨w.heap.size, x, none⟩ hVl (fun e => hrV e.symm)).trans HSa.2
      have fv9 : w9.frozen? ⟨w.heap.size, x, none⟩ = false := (hgrow9.frozen_far ⟨w.heap.size, x, none⟩ hVl (fun e => hrV e.symm)).trans (LA.out.cell HRX.out).2
      have HS9 : w9.cell? ⟨b, o + k * 2, none⟩ = some (.int .i64 pb) ∧ w9.cell? ⟨w.heap.size, x, none⟩ = some (.slice a1 rn c1) := ⟨(hgrow9.cell_far ⟨b, o + k * 2, none⟩ hbl (fun e => hrb e.symm)).trans HSa.1, cv9⟩
      have L9 : Hid (Lw w.heap.size w.heap.size n w (w9.setCell ⟨w.heap.size, x, none⟩ (.slice (some ⟨gg, 0, none⟩) (rn + 1) cp)) (rs.set x ⟨.slice (some ⟨gg, 0, none⟩) (rn + 1) cp, rn + 1, rx ++ [Value.int .i64 pb]⟩)) := LA.out.put HRX.out hown9 hgrow9 (hat9.elim (fun h => .inl h.symm) (fun h => .inr (by rw [h, HZA.out]; rfl)))
      clear hown9 hgrow9 hat9 hlt9
      refine hK.out _ _ (fun _ => HS9) ?_
      clear hK K
      try simp only [Act.put, List.setIfInBounds_toArray, List.set_cons_zero, List.set_cons_succ]
      refine wpAnyG_one (i := 14) (by kernel_rfl) rfl (fun K hK0 => ?_)
      have hK : Hid _ := hK0
      clear hK0
      go_simp
      refine hK.out _ _ (fun _ => HS9) ?_
      clear hK K
      try simp only [Act.put, List.setIfInBounds_toArray, List.set_cons_zero, List.set_cons_succ]
      refine wpAnyG_one (i := 15) (by kernel_rfl) rfl (fun K hK0 => ?_)
      have hK : Hid _ := hK0
      clear hK0
      go_simp
      refine hK.out _ _ (fun h => Bool.noConfusion (show true = false from h)) ?_
      clear hK K
      try simp only [Act.put, List.setIfInBounds_toArray, List.set_cons_zero, List.set_cons_succ]
      refine wpAnyG_done (by kernel_rfl) ?_ _
      go_wp2
      go_roundg (ps.length - (k + 1))
      case measure => omega
      case rel =>
        refine ⟨k + 1, _, rfl, by go_num, by omega, L9.out, ?_⟩
        have h9 := HA.out.more HRX.out (.slice (some ⟨gg, 0, none⟩) (rn + 1) cp) pb
        rw [List.take_add_one, List.getElem?_map, HP.out]
        exact h9
    · have hkp' : ¬ (k : Int) < (ps.length : Int) := by omega
      have HA2 : Hid (AdX .i64 (ps.map swapP) rs) := by unfold Hid; have h9 := HA.out; rw [List.take_of_length_le (by first | omega | (rw [List.length_map]; omega))] at h9; exact h9
      go_wp2
      go_ret
      exact ⟨rfl, rs, LV.out, HA2.out⟩
end Go.Proofs.Ytgijcbipnjmhgab

namespace Go.Proofs.Ytgijcbipnjmhgab
open Go.ChangeShapes Go.WideShapes Go.ChangeAt Go.RowKit
set_option linter.unusedVariables false
set_option linter.unusedSimpArgs false

theorem Lt.bnd {s : Nat} {S : Nat → Prop} {cs : List Int} (h : Lt s S cs 0 0) : ∀ (d j : Nat), 2 * s - j ≤ d → 1 ≤ j → j < 2 * s → 0 ≤ cs[j]! ∧ cs[j]! * (j : Int) ≤ 2 * (s : Int)
  | 0, j, hd, h1, h2 => by omega
  | d + 1, j, hd, h1, h2 => by
    by_cases hj : j < s
    · obtain ⟨a1, a2⟩ := Lt.bnd h d (2 * j) (by omega) (by omega) (by omega)
      obtain ⟨b1, b2⟩ := Lt.bnd h d (2 * j + 1) (by omega) (by omega) (by omega)
      have hi := h.inn j h1 hj
      rw [if_neg (by omega)] at hi
      generalize cs[2 * j]! = u at *
      generalize cs[2 * j + 1]! = v at *
      generalize cs[j]! = c at *
      refine ⟨by omega, ?_⟩
      have e : c = u + v := by omega
      subst e
      have h3 : 2 * ((u + v) * (j : Int)) = u * ((2 * j : Nat) : Int) + v * ((2 * j : Nat) : Int) := by
        rw [← Int.add_mul]
        push_cast
        rw [← Int.mul_assoc, Int.mul_comm 2 (u + v), Int.mul_assoc]
      have h4 : v * ((2 * j : Nat) : Int) ≤ v * ((2 * j + 1 : Nat) : Int) := Int.mul_le_mul_of_nonneg_left (by omega) b1
      omega
    · obtain ⟨y, rfl⟩ : ∃ y, j = s + y := ⟨j - s, by omega⟩
      have hle : cs[s + y]! = 0 ∨ cs[s + y]! = 1 := by
        by_cases hS : S y
        · have := h.one y (by omega) hS
          rw [if_neg (by omega)] at this
          exact .inr (by omega)
        · have := h.zer y (by omega) hS
          rw [if_neg (by omega)] at this
          exact .inl (by omega)
      rcases hle with e | e
      · rw [e]; omega
      · rw [e]; omega
theorem Lt.le {s j : Nat} {S : Nat → Prop} {cs : List Int} (h : Lt s S cs 0 0) (h1 : 1 ≤ j) (h2 : j < 2 * s) : 0 ≤ cs[j]! ∧ cs[j]! ≤ 2 * (s : Int) := by
  obtain ⟨a, b⟩ := h.bnd (2 * s) j (by omega) h1 h2
  refine ⟨a, ?_⟩
  have : cs[j]! * 1 ≤ cs[j]! * (j : Int) := Int.mul_le_mul_of_nonneg_left (by omega) a
  omega
/-- a set of numbers, as it lies: a box with the size and the row of counts -/
structure Lz (B bL gC s : Nat) (w : World) (S : Nat → Prop) : Prop where
  box : Bx w bL #[.int .i64 (s : Int), .slice (some ⟨gC, 0, none⟩) (2 * s) (2 * s)] 82
  row : ∃ cs, w.ownsRow B 3 1 (.slice (some ⟨gC, 0, none⟩) (2 * s) (2 * s)) (2 * s) (flat cs) ∧ Lt s S cs 0 0
  le : B ≤ bL
  s1 : 1 ≤ s
  s2 : s ≤ 131072
  pw : ∃ a, s = 2 ^ a
theorem Lz.below {B bL gC s : Nat} {w w' : World} {S : Nat → Prop} (h : Lz B bL gC s w S) (hb : Below w.heap.size w w') : Lz B bL gC s w' S :=
  ⟨(hb.block bL h.box.lt).trans h.box, by obtain ⟨cs, h1, h2⟩ := h.row; exact ⟨cs, own_belowR h1 hb (Nat.le_refl _), h2⟩, h.le, h.s1, h.s2, h.pw⟩
theorem Lz.congr {B bL gC s : Nat} {w : World} {S S' : Nat → Prop} (h : Lz B bL gC s w S) (hS : ∀ y, y < s → (S y ↔ S' y)) : Lz B bL gC s w S' :=
  ⟨h.box, by obtain ⟨cs, h1, h2⟩ := h.row; exact ⟨cs, h1, h2.len, h2.inn, fun y hy hs => h2.one y hy ((hS y hy).2 hs), fun y hy hs => h2.zer y hy (fun k => hs ((hS y hy).1 k))⟩, h.le, h.s1, h.s2, h.pw⟩
set_option maxRecDepth 1000000 in
set_option maxHeartbeats 2000000 in
theorem put_lows (B bL gC s x : Nat) (d : Int) (S S' : Nat → Prop) (w : World) (h : Lz B bL gC s w S) (hx : x < s) (hd : d = 1 ∨ d = -1) (hS : ∀ cs, Lt s S cs 0 0 → Lt s S' cs (s + x) d) :
    Calls Try.prog 30 #[.pointer (some ⟨bL, 0, none⟩), .int .i64 (x : Int), .int .i64 d] w fun e w' => (∃ r, e = .returned r) ∧ Lz B bL gC s w' S' ∧ One gC w w' := by
  obtain ⟨cs, ho, hl⟩ := h.row
  have hl2 := hS cs hl
  have hbnd : ∀ j, 1 ≤ j → j < 2 * s → 0 ≤ cs[j]! ∧ cs[j]! ≤ 2 * (s : Int) := fun j h1 h2 => hl.le h1 h2
  have HZ := hidH h
  have hs1 := h.s1
  have hs2 := h.s2
  have hne : bL ≠ gC := h.box.neR ho (by decide) rfl
  have c0 := h.box.cell 0
  have c1 := h.box.cell 1
  simp at c0 c1
  have HO := hidH ho
  have HL2 := hidH hl2
  have HBD := hidH hbnd
  have k0 : IntKind.i64.wrap ((s : Int) + (x : Int)) = ((s + x : Nat) : Int) := by rw [IntWalk.i64_in _ ⟨by omega, by omega⟩]; omega
  clear h ho hl hl2 hbnd hS
  go_enter Try.func30, Try.ntmps30
  go_wp2
  go_loopg [6] (s + x) (fun gk s6 wr => ∃ (k : Nat) (cs : List Int), gk = k ∧ s6 = .int .i64 (k : Int) ∧ k < 2 * s ∧ wr.ownsRow B 3 1 (.slice (some ⟨gC, 0, none⟩) (2 * s) (2 * s)) (2 * s) (flat cs) ∧ Lt s S' cs k d ∧ (∀ j, 1 ≤ j → j ≤ k → 0 ≤ cs[j]! ∧ cs[j]! ≤ 2 * (s : Int)) ∧ One gC w wr)
  case atStart => exact ⟨s + x, cs, rfl, rfl, by omega, HO.out, HL2.out, fun j h1 h2 => HBD.out j h1 (by omega), One.refl _ _⟩
  case round =>
    clear HO HL2 HBD
    obtain ⟨k, cs, hgk, rfl, hk, hO, hL, hB, hE⟩ := hrel
    have HO := hidH hO
    have HL := hidH hL
    have HBD := hidH hB
    have EE := hidH hE
    clear hO hL hB hE
    have hX : Bx wr bL #[.int .i64 (s : Int), .slice (some ⟨gC, 0, none⟩) (2 * s) (2 * s)] 82 := (EE.out.keep bL HZ.out.box.lt hne).trans HZ.out.box
    by_cases hk0 : 0 < k
    · have hk0' : (0 : Int) < (k : Int) := by omega
      have d0 := hX.cell 0
      have d1 := hX.cell 1
      simp at d0 d1
      have hkl : k < cs.length := by rw [HL.out.len]; exact hk
      obtain ⟨v, hv⟩ : ∃ v, cs[k]! = v := ⟨_, rfl⟩
      have hkv : cs[k]? = some v := by rw [List.getElem?_eq_getElem hkl, ← hv, getElem!_pos cs k hkl]
      have hvb := HBD.out k hk0 (Nat.le_refl _)
      rw [hv] at hvb
      obtain ⟨cK, fK⟩ := row_cell HO.out hkv
      have kv : IntKind.i64.wrap (v + d) = v + d := by rw [IntWalk.i64_in _ ⟨by omega, by omega⟩]
      obtain ⟨k2, hk2⟩ : ∃ k2, k / 2 = k2 := ⟨_, rfl⟩
      have kq : IntKind.i64.wrap ((k : Int).tdiv 2) = (k2 : Int) := by rw [Int.tdiv_eq_ediv_of_nonneg (by omega), IntWalk.i64_in _ ⟨by omega, by omega⟩]; omega
      have hk2s : (k : Int) < 2 * (s : Int) := by omega
      have O2 : Hid ((wr.setCell ⟨gC, k, none⟩ (.int .i64 (v + d))).ownsRow B 3 1 (.slice (some ⟨gC, 0, none⟩) (2 * s) (2 * s)) (2 * s) (flat (cs.set k (v + d)))) := by
        have h1 := (World.ownsRow.stored HO.out k (.int .i64 (v + d))).1
        rw [flat_setI] at h1
        exact h1
      have L2 : Hid (Lt s S' (cs.set k (v + d)) (k / 2) d) := by have h9 := HL.out.up hs1 hk0 hk; rw [hv] at h9; exact h9
      have B2 : Hid (∀ j, 1 ≤ j → j ≤ k / 2 → 0 ≤ (cs.set k (v + d))[j]! ∧ (cs.set k (v + d))[j]! ≤ 2 * (s : Int)) := fun j h1 h2 => by rw [get_set cs k j _ hkl, if_neg (by omega)]; exact HBD.out j h1 (by omega)
      have E2 := hidH (EE.out.trans (One.set gC k wr (.int .i64 (v + d))))
      rw [hk2] at L2 B2
      clear hv hkv hX
      go_wp2
      go_roundg k2
      case measure => omega
      case rel => exact ⟨k2, _, rfl, congrArg (Value.int .i64) (by omega), by omega, O2.out, L2.out, B2.out, E2.out⟩
    · have hk0' : ¬ (0 : Int) < (k : Int) := by omega
      have hk2 : k = 0 := by omega
      have L0 : Hid (Lt s S' cs 0 0) := by have h9 := HL.out; rw [hk2] at h9; exact h9.zero hs1
      go_wp2
      refine bodyPost_end (results_none rfl _ _ _) rfl ?_
      exact ⟨⟨_, rfl⟩, ⟨hX, ⟨cs, HO.out, L0.out⟩, HZ.out.le, hs1, hs2, HZ.out.pw⟩, EE.out⟩
theorem put_in (B bL gC s x : Nat) (S : Nat → Prop) (w : World) (h : Lz B bL gC s w S) (hx : x < s) (hS : ¬ S x) :
    Calls Try.prog 30 #[.pointer (some ⟨bL, 0, none⟩), .int .i64 (x : Int), .int .i64 1] w fun e w' => (∃ r, e = .returned r) ∧ Lz B bL gC s w' (fun y => S y ∨ y = x) ∧ One gC w w' :=
  put_lows B bL gC s x 1 S _ w h hx (.inl rfl) (fun cs hl => (hl.put h.s1 hx).1 hS)
theorem put_out (B bL gC s x : Nat) (S : Nat → Prop) (w : World) (h : Lz B bL gC s w S) (hx : x < s) (hS : S x) :
    Calls Try.prog 30 #[.pointer (some ⟨bL, 0, none⟩), .int .i64 (x : Int), .int .i64 (-1)] w fun e w' => (∃ r, e = .returned r) ∧ Lz B bL gC s w' (fun y => S y ∧ y ≠ x) ∧ One gC w w' :=
  put_lows B bL gC s x (-1) S _ w h hx (.inr rfl) (fun cs hl => (hl.put h.s1 hx).2 hS)
set_option maxRecDepth 1000000 in
set_option maxHeartbeats 2000000 in
theorem least_no (B bL gC s : Nat) (S : Nat → Prop) (w : World) (h : Lz B bL gC s w S) (hS : ∀ y, y < s → ¬ S y) :
    Calls Try.prog 31 #[.pointer (some ⟨bL, 0, none⟩)] w fun e w' => e = .returned (.int .i64 (-1)) ∧ w' = w := by
  obtain ⟨cs, ho, hl⟩ := h.row
  obtain ⟨a, ha⟩ := h.pw
  have h1 : cs[1]! = 0 := (hl.sum a 1 (by omega) (by omega) (by omega)).2.2.2 (fun y hy _ _ => hS y hy)
  have hs1 := h.s1
  have hkl : 1 < cs.length := by rw [hl.len]; omega
  have hkv : cs[1]? = some 0 := by rw [List.getElem?_eq_getElem hkl, ← getElem!_pos cs 1 hkl, h1]
  have cK := (row_cell ho hkv).1
  have c1 := h.box.cell 1
  simp at c1
  have h2 : (1 : Int) < 2 * (s : Int) := by omega
  clear h ho hl ha h1 hkv hS
  go_enter Try.func31, Try.ntmps31
  go_wp2
  go_ret
  exact ⟨rfl, rfl⟩
set_option maxRecDepth 1000000 in
set_option maxHeartbeats 2000000 in
theorem least_yes (B bL gC s : Nat) (S : Nat → Prop) (w : World) (h : Lz B bL gC s w S) (hS : ∃ y, y < s ∧ S y) :
    Calls Try.prog 31 #[.pointer (some ⟨bL, 0, none⟩)] w fun e w' => w' = w ∧ ∃ x : Nat, e = .returned (.int .i64 (x : Int)) ∧ x < s ∧ S x ∧ ∀ y, y < s → S y → x ≤ y := by
  obtain ⟨cs, ho, hl⟩ := h.row
  obtain ⟨a, ha⟩ := h.pw
  have h1 : cs[1]! ≠ 0 := fun e => by
    obtain ⟨y, hy, hs⟩ := hS
    exact (hl.sum a 1 (by omega) (by omega) (by omega)).2.2.1 e y hy (by omega) (by omega) hs
  have D0 : Hid (Ld2 s S cs 1 a) := ⟨by omega, by omega, by omega, h1, fun y hy _ => by omega⟩
  have hs1 := h.s1
  have hs2 := h.s2
  have HL := hidH hl
  have HO := hidH ho
  have CE : Hid (∀ k, 1 ≤ k → k < 2 * s → w.cell? ⟨gC, k, none⟩ = some (.int .i64 cs[k]!)) := fun k hk1 hk2 => by
    have hkl : k < cs.length := by rw [HL.out.len]; exact hk2
    exact (row_cell HO.out (by rw [List.getElem?_eq_getElem hkl, ← getElem!_pos cs k hkl])).1
  have c0 := h.box.cell 0
  have c1 := h.box.cell 1
  simp at c0 c1
  have cK := CE.out 1 (by omega) (by omega)
  obtain ⟨v, hv⟩ : ∃ v, cs[1]! = v := ⟨_, rfl⟩
  rw [hv] at cK h1
  have hv1 : (v == 0) = false := by rw [beq_eq_false_iff_ne]; exact h1
  have h2 : (1 : Int) < 2 * (s : Int) := by omega
  clear h ho hl ha hv hS
  go_enter Try.func31, Try.ntmps31
  go_wp2
  go_loopg [3] (2 * s) (fun gk s3 wr => ∃ k a : Nat, gk = 2 * s - (k - 1) ∧ s3 = .int .i64 (k : Int) ∧ Ld2 s S cs k a ∧ wr = w)
  case atStart => exact ⟨1, a, by omega, rfl, D0.out, rfl⟩
  case round =>
    clear D0
    obtain ⟨k, a, hgk, rfl, hD, rfl⟩ := hrel
    have DD := hidH hD
    have hk1 := hD.k1
    have hkn := hD.not
    clear hD
    by_cases hks : k < s
    · have hks' : (k : Int) < (s : Int) := by omega
      obtain ⟨b, rfl⟩ := hkn.1 hks
      obtain ⟨dA, dB⟩ := DD.out.down HL.out
      have k2 : IntKind.i64.wrap (2 * (k : Int)) = ((2 * k : Nat) : Int) := by rw [IntWalk.i64_in _ ⟨by omega, by omega⟩]; omega
      have k3 : IntKind.i64.wrap ((2 * k : Nat) : Int) = ((2 * k : Nat) : Int) := by rw [IntWalk.i64_in _ ⟨by omega, by omega⟩]
      have k4 : IntKind.i64.wrap (2 * (k : Int) + 1) = ((2 * k + 1 : Nat) : Int) := by rw [IntWalk.i64_in _ ⟨by omega, by omega⟩]; omega
      have c2 := CE.out (2 * k) (by omega) (by omega)
      have h2k : 2 * (k : Int) < 2 * (s : Int) := by omega
      have HA := hidH dA
      have HBb := hidH dB
      obtain ⟨v2, hv2⟩ : ∃ v2, cs[2 * k]! = v2 := ⟨_, rfl⟩
      rw [hv2] at c2 HA HBb
      clear dA dB hkn hv2
      by_cases h0 : v2 = 0
      · subst h0
        have D2 := hidH (HBb.out rfl)
        go_wp2
        go_roundg (2 * s - (2 * k + 1 - 1))
        case measure => omega
        case rel => exact ⟨2 * k + 1, b, rfl, by simp, D2.out, rfl⟩
      · have h01 : (v2 == 0) = false := by rw [beq_eq_false_iff_ne]; exact h0
        have D2 := hidH (HA.out h0)
        go_wp2
        go_roundg (2 * s - (2 * k - 1))
        case measure => omega
        case rel => exact ⟨2 * k, b, rfl, by simp, D2.out, rfl⟩
    · have hks' : ¬ (k : Int) < (s : Int) := by omega
      have ha0 := hkn.2 (by omega)
      subst ha0
      obtain ⟨x, hx, hxs, hSx, hmin⟩ := DD.out.leaf HL.out
      have kx : IntKind.i64.wrap ((k : Int) - (s : Int)) = (x : Int) := by rw [IntWalk.i64_in _ ⟨by omega, by omega⟩]; omega
      have HMI := hidH hmin
      have HSX := hidH hSx
      clear hmin hSx hkn hx
      go_wp2
      go_ret
      exact ⟨rfl, x, rfl, hxs, HSX.out, HMI.out⟩
set_option maxRecDepth 1000000 in
set_option maxHeartbeats 2000000 in
theorem newLows_any (n : Nat) (w : World) (hn : n ≤ 131072) :
    Calls Try.prog 29 #[.int .i64 (n : Int)] w fun e w' => Below w.heap.size w w' ∧ ∃ bL : Nat, e = .returned (.pointer (some ⟨bL, 0, none⟩)) ∧ ∃ s : Nat, n ≤ s ∧ Lz w.heap.size bL w.heap.size s w' (fun _ => False) := by
  obtain ⟨i0, hi0, hz0, hz1, hz2⟩ := info_parts infoIntH
  go_enter Try.func29, Try.ntmps29
  go_wp2
  go_loopg [3] 18 (fun gk s3 wr => ∃ s a : Nat, gk = 18 - a ∧ s3 = .int .i64 (s : Int) ∧ s = 2 ^ a ∧ a ≤ 17 ∧ wr = w)
  case atStart => exact ⟨1, 0, rfl, rfl, rfl, by omega, rfl⟩
  case round =>
    obtain ⟨s, a, hgk, rfl, hs, ha, rfl⟩ := hrel
    have HS := hidH hs
    have hs1 : 1 ≤ s := by rw [hs]; exact Nat.one_le_two_pow
    have hs2 : s ≤ 131072 := by rw [hs]; exact Nat.le_trans (Nat.pow_le_pow_right (by omega) ha) (by decide)
    clear hs
    by_cases hsn : s < n
    · have hsn' : (s : Int) < (n : Int) := by omega
      have ha2 : a < 17 := by
        by_cases h : a < 17
        · exact h
        · have h9 := HS.out
          rw [show a = 17 by omega] at h9
          have : (2 : Nat) ^ 17 = 131072 := by decide
          omega
      have k2 : IntKind.i64.wrap ((s : Int) * 2) = ((s * 2 : Nat) : Int) := by rw [IntWalk.i64_in _ ⟨by omega, by omega⟩]; omega
      go_wp2
      go_roundg (18 - (a + 1))
      case measure => omega
      case rel => exact ⟨s * 2, a + 1, rfl, by simp, by rw [HS.out, Nat.pow_succ], by omega, rfl⟩
    · have hsn' : ¬ (s : Int) < (n : Int) := by omega
      have k2 : IntKind.i64.wrap (2 * (s : Int)) = ((2 * s : Nat) : Int) := by rw [IntWalk.i64_in _ ⟨by omega, by omega⟩]; omega
      obtain ⟨B, hB⟩ : ∃ B, wr.heap.size = B := ⟨_, rfl⟩
      go_wp2_with (at_make; refine wpList_make_full _ rfl _ _ 24 rfl B 3 i0 (.int .i64 0) 1 Try.underlying24 hi0 hz0 hz1 _ _ _ _ (2 * s) rfl rfl (by simp) (by simp) (by rw [hz2]; omega) (by unfold maxLen; omega) (by omega) ?_; intro v1 hown1 hgr1; rw [hB] at hown1 ⊢; have O1 : Hid (v1.ownsRow B 3 1 (.slice (some ⟨B, 0, none⟩) (2 * s) (2 * s)) (2 * s) (flat (List.replicate (2 * s) (0 : Int)))) := (by rw [show (Value.int .i64 0).cells = #[.int .i64 0] by rfl, rep_made] at hown1; unfold Hid; rw [show flat (List.replicate (2 * s) (0 : Int)) = List.replicate (2 * s) (Value.int .i64 0) by rw [flat_ints, List.map_replicate]]; exact hown1); have E1 : Hid (Below B wr v1) := ((Below.refl _ _).grown hgr1 (by omega) (fun k h => by cases h)); clear hown1 hgr1)
      obtain ⟨v2, e2, hb2, hs2', X2⟩ := bx1 v1 #[.int .i64 (s : Int), .slice (some ⟨B, 0, none⟩) (2 * s) (2 * s)] 82
      have hB1 := (O1.out.lt B rfl).2
      rw [e2]
      go_ret
      refine ⟨E1.out.trans (hb2.mono (by omega)), v1.heap.size, rfl, s, by omega, X2, ⟨_, own_belowR O1.out hb2 (Nat.le_refl _), Lt.start⟩, by omega, hs1, hs2, a, HS.out⟩
end Go.Proofs.Ytgijcbipnjmhgab

namespace Go.Proofs.Ytgijcbipnjmhgab
open Go.ChangeShapes Go.WideShapes Go.ChangeAt Go.RowKit
set_option linter.unusedVariables false
set_option linter.unusedSimpArgs false

/-- lists of whole numbers that are read: a row of rows, all below B -/
structure Rx6 (B : Nat) (w : World) (gV n : Nat) (N : Nat → List Int) : Prop where
  lt : gV < B
  row : ∀ x, x < n → ∃ a c, w.cell? ⟨gV, x, none⟩ = some (.slice a (N x).length c) ∧ Rd1 B w a (N x)
theorem Rx6.below {B gV n : Nat} {w w' : World} {N : Nat → List Int} (h : Rx6 B w gV n N) (hb : Below B w w') : Rx6 B w' gV n N :=
  ⟨h.lt, fun x hx => by
    obtain ⟨a, c, h1, h2⟩ := h.row x hx
    exact ⟨a, c, (hb.cell (p := ⟨gV, x, none⟩) h.lt).trans h1, h2.below hb⟩⟩
theorem Rx6.up {B B' gV n : Nat} {w : World} {N : Nat → List Int} (h : Rx6 B w gV n N) (hB : B ≤ B') : Rx6 B' w gV n N :=
  ⟨Nat.lt_of_lt_of_le h.lt hB, fun x hx => by
    obtain ⟨a, c, h1, h2⟩ := h.row x hx
    exact ⟨a, c, h1, h2.up hB⟩⟩
theorem lw_rx {B gV n : Nat} {w0 w : World} {rs : List Rr} {ps : List Pr} (h : Lw B gV n w0 w rs) (ha : AdX .i64 ps rs) : Rx6 w.heap.size w gV n (nd ps) := by
  refine ⟨(h.she.outV.lt gV rfl).2, fun x hx => ?_⟩
  obtain ⟨r, hr⟩ : ∃ r, rs[x]? = some r := ⟨_, List.getElem?_eq_getElem (by rw [h.len]; exact hx)⟩
  obtain ⟨ys, h1, h2, h3, h4⟩ := ha x r hr
  have ho := h.she.get hr
  obtain ⟨a, c, hv, hav, -⟩ := own_slice ho
  rw [← h4]
  refine ⟨a, c, by rw [(h.cell hr).1, hv, h1], fun h0 => ?_⟩
  obtain ⟨g, rfl⟩ := hav (by omega)
  refine ⟨g, rfl, (ho.lt g (by rw [hv]; rfl)).2, fun j y hj => ?_⟩
  rw [hv, h2] at ho
  have h8 := ho.cells rfl j (.int .i64 y) (by rw [List.getElem?_map, hj]; rfl)
  rwa [addr_add, Nat.zero_add] at h8
theorem rows1R (n cap : Nat) (a : Option Addr) (ps : List Pr) (w : World) (hL : LiesA w a ps) (hn : n ≤ 131072) (hm : ps.length ≤ 8796093022208) (hr : ∀ p ∈ ps, (0 ≤ p.a ∧ p.a < (n : Int)) ∧ (0 ≤ p.b ∧ p.b < (n : Int))) :
    Calls Try.prog 28 #[.int .i64 (n : Int), .slice a ps.length cap, .int .i64 1] w fun e w' => e = .returned (.slice (some ⟨w.heap.size, 0, none⟩) n n) ∧ Below w.heap.size w w' ∧ Rx6 w'.heap.size w' w.heap.size n (nd ps) :=
  (rows1X_any n cap a ps w hL hn hm hr).mono fun e w' ⟨h1, rs, h2, h3⟩ => ⟨h1, h2.bel, lw_rx h2 h3⟩
theorem rows0R (n cap : Nat) (a : Option Addr) (ps : List Pr) (w : World) (hL : LiesA w a ps) (hn : n ≤ 131072) (hm : ps.length ≤ 8796093022208) (hr : ∀ p ∈ ps, (0 ≤ p.a ∧ p.a < (n : Int)) ∧ (0 ≤ p.b ∧ p.b < (n : Int))) :
    Calls Try.prog 28 #[.int .i64 (n : Int), .slice a ps.length cap, .int .i64 0] w fun e w' => e = .returned (.slice (some ⟨w.heap.size, 0, none⟩) n n) ∧ Below w.heap.size w w' ∧ Rx6 w'.heap.size w' w.heap.size n (fun x => usr ps (x : Int)) :=
  (rows0X_any n cap a ps w hL hn hm hr).mono fun e w' ⟨h1, rs, h2, h3⟩ => ⟨h1, h2.bel, by have h9 := lw_rx h2 h3; rw [show nd (ps.map swapP) = (fun (x : Nat) => usr ps (x : Int)) from funext fun x => nd_swap ps x] at h9; exact h9⟩
theorem usr_len (ps : List Pr) (x : Int) : (usr ps x).length ≤ ps.length := by
  unfold usr
  rw [List.length_map]
  exact List.length_filter_le _ _
theorem cnE_take {ps : List Pr} {k : Nat} {p : Pr} (h : ps[k]? = some p) (y : Int) : cnE (ps.take (k + 1)) [] y = cnE (ps.take k) [] y + if p.a = y then 1 else 0 := by
  obtain ⟨h1, e1⟩ := List.getElem?_eq_some_iff.1 h
  unfold cnE
  rw [List.take_succ_eq_append_getElem h1, e1, List.filter_append, List.length_append]
  congr 1
  by_cases e : p.a = y
  · rw [if_pos e, List.filter_cons_of_pos (by simp [e])]; rfl
  · rw [if_neg e, List.filter_cons_of_neg (by simp [e])]; rfl
/-- the reference's line-up: the set, what is missing, what stands in line -/
structure Qw (B bL gC s gm n : Nat) (w : World) (S : Nat → Prop) (ms : List Int) : Prop where
  lz : Lz B bL gC s w S
  mi : w.ownsRow B 3 1 (.slice (some ⟨gm, 0, none⟩) n n) n (flat ms)
  d1 : gC ≠ gm
theorem Qw.below {B bL gC s gm n : Nat} {w w' : World} {S : Nat → Prop} {ms : List Int} (h : Qw B bL gC s gm n w S ms) (hb : Below w.heap.size w w') : Qw B bL gC s gm n w' S ms :=
  ⟨h.lz.below hb, own_belowR h.mi hb (Nat.le_refl _), h.d1⟩
theorem Qw.put {B bL gC s gm n : Nat} {w w' : World} {S S' : Nat → Prop} {ms : List Int} (h : Qw B bL gC s gm n w S ms) (hz : Lz B bL gC s w' S') (ho : One gC w w') : Qw B bL gC s gm n w' S' ms :=
  ⟨hz, own_same h.mi (fun g e => by cases e; exact ho.keep gm (h.mi.lt gm rfl).2 (fun e => h.d1 e.symm)), h.d1⟩
theorem Qw.set {B bL gC s gm n : Nat} {w : World} {S : Nat → Prop} {ms : List Int} (h : Qw B bL gC s gm n w S ms) (y : Nat) (v : Int) : Qw B bL gC s gm n (w.setCell ⟨gm, y, none⟩ (.int .i64 v)) S (ms.set y v) := by
  have hne : bL ≠ gm := h.lz.box.neR h.mi (by decide) rfl
  obtain ⟨cs, h1, h2⟩ := h.lz.row
  refine ⟨⟨h.lz.box.other ⟨gm, y, none⟩ hne _, ⟨cs, ownsRow_setCell_other h1 (a := ⟨gm, y, none⟩) (fun e => h.d1 (by injection e)) _, h2⟩, h.lz.le, h.lz.s1, h.lz.s2, h.lz.pw⟩, ?_, h.d1⟩
  have h3 := (World.ownsRow.stored h.mi y (.int .i64 v)).1
  rw [flat_setI] at h3
  exact h3
theorem Qw.grw {B bL gC s gm n : Nat} {w w' : World} {S : Nat → Prop} {ms : List Int} {g0 : Option Nat} (h : Qw B bL gC s gm n w S ms) (hg : w.grownBy w' g0) (h1 : g0 ≠ some bL) (h2 : g0 ≠ some gC) (h3 : g0 ≠ some gm) : Qw B bL gC s gm n w' S ms := by
  obtain ⟨cs, k1, k2⟩ := h.lz.row
  exact ⟨⟨h.lz.box.grw hg h1, ⟨cs, own_same k1 (fun g e => by cases e; exact hg.block gC (k1.lt gC rfl).2 (fun e => h2 e.symm)), k2⟩, h.lz.le, h.lz.s1, h.lz.s2, h.lz.pw⟩, own_same h.mi (fun g e => by cases e; exact hg.block gm (h.mi.lt gm rfl).2 (fun e => h3 e.symm)), h.d1⟩
theorem Qw.mlen {B bL gC s gm n : Nat} {w : World} {S : Nat → Prop} {ms : List Int} (h : Qw B bL gC s gm n w S ms) : ms.length = n := by
  have := h.mi.1
  rw [flat_length] at this
  exact Nat.eq_of_mul_eq_mul_right (by decide) this
theorem Qw.get {B bL gC s gm n : Nat} {w : World} {S : Nat → Prop} {ms : List Int} (h : Qw B bL gC s gm n w S ms) {y : Nat} (hy : y < n) : w.cell? ⟨gm, y, none⟩ = some (.int .i64 ms[y]!) ∧ w.frozen? ⟨gm, y, none⟩ = false :=
  row_cell h.mi (by rw [List.getElem?_eq_getElem (by rw [h.mlen]; exact hy), ← getElem!_pos ms y (by rw [h.mlen]; exact hy)])
/-- what Least answers -/
def Lea (s : Nat) (S : Nat → Prop) (z : Int) : Prop := (z = -1 ∧ ∀ y, y < s → ¬ S y) ∨ ∃ x : Nat, z = (x : Int) ∧ x < s ∧ S x ∧ ∀ y, y < s → S y → x ≤ y
theorem least_any (B bL gC s : Nat) (S : Nat → Prop) (w : World) (h : Lz B bL gC s w S) :
    Calls Try.prog 31 #[.pointer (some ⟨bL, 0, none⟩)] w fun e w' => w' = w ∧ ∃ z : Int, e = .returned (.int .i64 z) ∧ Lea s S z := by
  by_cases hS : ∃ y, y < s ∧ S y
  · exact (least_yes B bL gC s S w h hS).mono fun e w' ⟨h1, x, h2, h3, h4, h5⟩ => ⟨h1, (x : Int), h2, .inr ⟨x, rfl, h3, h4, h5⟩⟩
  · exact (least_no B bL gC s S w h (fun y hy hs => hS ⟨y, hy, hs⟩)).mono fun e w' ⟨h1, h2⟩ => ⟨h2, -1, h1, .inl ⟨rfl, fun y hy hs => hS ⟨y, hy, hs⟩⟩⟩
end Go.Proofs.Ytgijcbipnjmhgab
