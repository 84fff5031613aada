import Derived.Test.YtgijcbipnjmhgabGreatSp6
import Derived.Test.YtgijcbipnjmhgabGreatFa2
namespace Go.Proofs.YtgijcbipnjmhgabGreat
set_option linter.unusedVariables false
set_option linter.unusedSimpArgs false

/-- who needs x, as often as an edge says so -/
def usr (ps : List Pr) (x : Int) : List Int := (ps.filter fun p => decide (p.b = x)).map Pr.a
theorem mem_usr {ps : List Pr} {x y : Int} : y ∈ usr ps x ↔ (⟨y, x⟩ : Pr) ∈ ps := by
  unfold usr
  rw [List.mem_map]
  constructor
  · rintro ⟨⟨a, b⟩, hp, rfl⟩
    rw [List.mem_filter] at hp
    have h2 : b = x := by simpa using hp.2
    rw [← h2]
    exact hp.1
  · intro h
    exact ⟨_, List.mem_filter.2 ⟨h, by simp⟩, rfl⟩
/-- how many edges of y lead to what is not there yet -/
def cnE (ps : List Pr) (os : List Int) (y : Int) : Nat := (ps.filter fun p => decide (p.a = y) && decide (p.b ∉ os)).length
def cnP (pend : List Int) (y : Int) : Nat := (pend.filter fun z => decide (z = y)).length
theorem cnP_cons (z y : Int) (p : List Int) : cnP (z :: p) y = cnP p y + if z = y then 1 else 0 := by
  unfold cnP
  by_cases h : z = y
  · rw [if_pos h, List.filter_cons_of_pos (by simpa using h)]; rfl
  · rw [if_neg h, List.filter_cons_of_neg (by simpa using h)]; rfl
theorem cnE_snoc (ps : List Pr) (os : List Int) (m y : Int) (hm : m ∉ os) : cnE ps os y = cnE ps (os ++ [m]) y + cnP (usr ps m) y := by
  induction ps with
  | nil => rfl
  | cons p ps ih =>
    obtain ⟨a, b⟩ := p
    have hE : ∀ l : List Int, cnE (⟨a, b⟩ :: ps) l y = cnE ps l y + if a = y ∧ b ∉ l then 1 else 0 := fun l => by
      unfold cnE
      by_cases h : a = y ∧ b ∉ l
      · rw [if_pos h, List.filter_cons_of_pos (by simp [h.1, h.2])]; rfl
      · rw [if_neg h, List.filter_cons_of_neg (by simpa using h)]; rfl
    have hU : cnP (usr (⟨a, b⟩ :: ps) m) y = cnP (usr ps m) y + if b = m ∧ a = y then 1 else 0 := by
      unfold usr
      by_cases h : b = m
      · rw [List.filter_cons_of_pos (by simpa using h), List.map_cons, cnP_cons]
        simp only [h, true_and]
      · rw [List.filter_cons_of_neg (by simpa using h), if_neg (fun e => h e.1)]; rfl
    rw [hE, hE, hU, ih]
    by_cases ha : a = y
    · by_cases hb : b = m
      · subst hb
        rw [if_pos ⟨ha, hm⟩, if_neg (by simp), if_pos ⟨rfl, ha⟩]; omega
      · by_cases ho : b ∈ os
        · rw [if_neg (fun e => e.2 ho), if_neg (fun e => e.2 (List.mem_append_left _ ho)), if_neg (fun e => hb e.1)]; omega
        · rw [if_pos ⟨ha, ho⟩, if_pos ⟨ha, fun e => (List.mem_append.1 e).elim ho (fun e => hb (List.mem_singleton.1 e))⟩, if_neg (fun e => hb e.1)]; omega
    · rw [if_neg (fun e => ha e.1), if_neg (fun e => ha e.1), if_neg (fun e => ha e.2)]; omega
theorem cnE_zero {ps : List Pr} {os : List Int} {y : Int} : cnE ps os y = 0 ↔ ∀ z, (⟨y, z⟩ : Pr) ∈ ps → z ∈ os := by
  unfold cnE
  rw [List.length_eq_zero_iff, List.filter_eq_nil_iff]
  constructor
  · intro h z hz
    apply Classical.byContradiction
    intro hn
    exact h _ hz (by simp [hn])
  · rintro h ⟨a, b⟩ hp h2
    simp only [Bool.and_eq_true, decide_eq_true_eq] at h2
    obtain ⟨rfl, h3⟩ := h2
    exact h3 (h b hp)
theorem cnE_le (ps : List Pr) (os : List Int) (y : Int) : cnE ps os y ≤ ps.length := List.length_filter_le _ _
/-- the reference's counting: P tells what may come at all -/
structure Lr (ps : List Pr) (n : Nat) (P : Int → Bool) (os : List Int) (S : Nat → Prop) (ms pend : List Int) : Prop where
  len : ms.length = n
  cnt : ∀ y : Nat, y < n → ms[y]! = (cnE ps os (y : Int) : Int) + cnP pend (y : Int)
  rdy : ∀ y : Nat, S y ↔ (y < n ∧ P (y : Int) = true ∧ (y : Int) ∉ os ∧ ms[y]! = 0)
  gd : ∀ qs x rs, os = qs ++ x :: rs → Rdn (fun x => (0 ≤ x ∧ x < (n : Int)) ∧ P x = true) (fun x z => (⟨x, z⟩ : Pr) ∈ ps) qs x ∧ ∀ y, Rdn (fun x => (0 ≤ x ∧ x < (n : Int)) ∧ P x = true) (fun x z => (⟨x, z⟩ : Pr) ∈ ps) qs y → x ≤ y
  pnd : ∀ y ∈ pend, 0 ≤ y ∧ y < (n : Int) ∧ P y = true ∧ y ∉ os
theorem Lr.is {ps : List Pr} {n : Nat} {P : Int → Bool} {os ms : List Int} {S : Nat → Prop} (h : Lr ps n P os S ms []) (x : Nat) : S x ↔ Rdn (fun x => (0 ≤ x ∧ x < (n : Int)) ∧ P x = true) (fun x z => (⟨x, z⟩ : Pr) ∈ ps) os (x : Int) := by
  rw [h.rdy]
  unfold Rdn
  constructor
  · rintro ⟨a, b, c, d⟩
    rw [h.cnt x a] at d
    refine ⟨⟨⟨by omega, by omega⟩, b⟩, c, cnE_zero.1 ?_⟩
    have : cnP [] (x : Int) = 0 := rfl
    omega
  · rintro ⟨⟨⟨a, a2⟩, b⟩, c, d⟩
    refine ⟨by omega, b, c, ?_⟩
    rw [h.cnt x (by omega), cnE_zero.2 d]
    rfl
theorem Lr.pop {ps : List Pr} {n m : Nat} {P : Int → Bool} {os ms : List Int} {S : Nat → Prop} (h : Lr ps n P os S ms []) (hr : ∀ p ∈ ps, 0 ≤ p.a ∧ p.a < (n : Int)) (hP : ∀ p ∈ ps, P p.a = true) (hm : S m) (hmin : ∀ y, S y → m ≤ y) : Lr ps n P (os ++ [(m : Int)]) (fun y => S y ∧ y ≠ m) ms (usr ps (m : Int)) := by
  have hR := (h.is m).1 hm
  obtain ⟨⟨h0, h1⟩, h2, h3⟩ := hR
  refine ⟨h.len, fun y hy => ?_, fun y => ?_, fun qs x rs e => ?_, fun y hy => ?_⟩
  · rw [h.cnt y hy, cnE_snoc ps os (m : Int) (y : Int) h2]
    have : cnP [] (y : Int) = 0 := rfl
    omega
  · rw [h.rdy]
    simp only [List.mem_append, List.mem_singleton, not_or]
    constructor
    · rintro ⟨⟨a, b, c, d⟩, e⟩; exact ⟨a, b, ⟨c, by omega⟩, d⟩
    · rintro ⟨a, b, ⟨c, e⟩, d⟩; exact ⟨⟨a, b, c, d⟩, by omega⟩
  · rcases List.eq_nil_or_concat rs with rfl | ⟨rs', z, rfl⟩
    · obtain ⟨rfl, e2⟩ := List.append_inj' e rfl
      cases e2
      refine ⟨⟨⟨h0, h1⟩, h2, h3⟩, fun y hy => ?_⟩
      have hy0 := hy.1.1.1
      obtain ⟨y, rfl⟩ : ∃ y' : Nat, y = (y' : Int) := ⟨y.toNat, by omega⟩
      have := hmin y ((h.is y).2 hy)
      omega
    · rw [List.concat_eq_append, ← List.cons_append, ← List.append_assoc] at e
      obtain ⟨e1, -⟩ := List.append_inj' e rfl
      exact h.gd qs x rs' e1
  · have he := mem_usr.1 hy
    have hr1 := hr _ he
    refine ⟨hr1.1, hr1.2, hP _ he, fun hy2 => ?_⟩
    rcases List.mem_append.1 hy2 with hy2 | hy2
    · obtain ⟨i, hi⟩ := List.getElem?_of_mem hy2
      obtain ⟨l1, e1⟩ := List.getElem?_eq_some_iff.1 hi
      have hsp : os = os.take i ++ y :: os.drop (i + 1) := by rw [← e1, List.getElem_cons_drop, List.take_append_drop]
      have := (h.gd _ _ _ hsp).1.2.2 (m : Int) he
      exact h2 (List.mem_of_mem_take this)
    · rw [List.mem_singleton] at hy2
      subst hy2
      exact h2 (h3 _ he)
theorem Lr.pos {ps : List Pr} {n y : Nat} {P : Int → Bool} {os ms p : List Int} {S : Nat → Prop} (h : Lr ps n P os S ms ((y : Int) :: p)) : y < n ∧ 1 ≤ ms[y]! ∧ ¬ S y ∧ P (y : Int) = true ∧ (y : Int) ∉ os := by
  have h1 := h.pnd (y : Int) List.mem_cons_self
  have h2 : y < n := by omega
  have h3 := h.cnt y h2
  rw [cnP_cons, if_pos rfl] at h3
  refine ⟨h2, by omega, fun hS => ?_, h1.2.2.1, h1.2.2.2⟩
  have := ((h.rdy y).1 hS).2.2.2
  omega
theorem Lr.dec {ps : List Pr} {n y : Nat} {P : Int → Bool} {os ms p : List Int} {S : Nat → Prop} (h : Lr ps n P os S ms ((y : Int) :: p)) : Lr ps n P os (fun z => S z ∨ (z = y ∧ ms[y]! - 1 = 0)) (ms.set y (ms[y]! - 1)) p := by
  obtain ⟨hyn, hp1, hyS, hyP, hyo⟩ := h.pos
  have hl : y < ms.length := by rw [h.len]; exact hyn
  refine ⟨by rw [List.length_set]; exact h.len, fun z hz => ?_, fun z => ?_, h.gd, fun z hz => h.pnd z (List.mem_cons_of_mem _ hz)⟩
  · have h3 := h.cnt z hz
    rw [cnP_cons] at h3
    rw [get_set ms y z _ hl]
    by_cases e : z = y
    · subst e; rw [if_pos rfl] at h3 ⊢; omega
    · rw [if_neg (by omega)] at h3; rw [if_neg e]; omega
  · rw [h.rdy, get_set ms y z _ hl]
    by_cases e : z = y
    · subst e
      rw [if_pos rfl]
      constructor
      · rintro (⟨a, b, c, d⟩ | ⟨-, d⟩)
        · omega
        · exact ⟨hyn, hyP, hyo, d⟩
      · rintro ⟨a, b, c, d⟩; exact .inr ⟨rfl, d⟩
    · rw [if_neg e]
      constructor
      · rintro (h | ⟨d, -⟩)
        · exact h
        · exact absurd d e
      · exact .inl
theorem Lr.congr {ps : List Pr} {n : Nat} {P : Int → Bool} {os ms p : List Int} {S S' : Nat → Prop} (h : Lr ps n P os S ms p) (hS : ∀ y, S y ↔ S' y) : Lr ps n P os S' ms p :=
  ⟨h.len, h.cnt, fun y => (hS y).symm.trans (h.rdy y), h.gd, h.pnd⟩
theorem Lr.stop {ps : List Pr} {n : Nat} {P : Int → Bool} {os ms : List Int} {S : Nat → Prop} (h : Lr ps n P os S ms []) (hS : ∀ y, ¬ S y) : Gn (fun x => (0 ≤ x ∧ x < (n : Int)) ∧ P x = true) (fun x z => (⟨x, z⟩ : Pr) ∈ ps) os :=
  ⟨h.gd, fun x hx => by
    have hx0 := hx.1.1.1
    obtain ⟨y, rfl⟩ : ∃ y : Nat, x = (y : Int) := ⟨x.toNat, by omega⟩
    exact hS y ((h.is y).2 hx)⟩
theorem Lr.start {ps : List Pr} {n : Nat} {P : Int → Bool} {ms : List Int} (hl : ms.length = n) (hc : ∀ y : Nat, y < n → ms[y]! = (cnE ps [] (y : Int) : Int)) : Lr ps n P [] (fun y => y < n ∧ P (y : Int) = true ∧ ms[y]! = 0) ms [] :=
  ⟨hl, fun y hy => by rw [hc y hy]; simp [cnP], fun y => by simp, fun qs x rs e => by simp at e, fun y hy => by cases hy⟩
theorem Lr.few {ps : List Pr} {n : Nat} {P : Int → Bool} {os ms p : List Int} {S : Nat → Prop} (h : Lr ps n P os S ms p) : os.Nodup ∧ (∀ y ∈ os, 0 ≤ y ∧ y < (n : Int)) ∧ os.length ≤ n := by
  have hr : ∀ y ∈ os, 0 ≤ y ∧ y < (n : Int) := fun y hy => by
    obtain ⟨i, hi⟩ := List.getElem?_of_mem hy
    obtain ⟨l1, e1⟩ := List.getElem?_eq_some_iff.1 hi
    have hsp : os = os.take i ++ y :: os.drop (i + 1) := by rw [← e1, List.getElem_cons_drop, List.take_append_drop]
    exact (h.gd _ _ _ hsp).1.1.1
  have hn : os.Nodup := by
    refine List.pairwise_iff_getElem.2 fun i j hi hj hij e => ?_
    have hsp : os = os.take j ++ os[j] :: os.drop (j + 1) := by rw [List.getElem_cons_drop, List.take_append_drop]
    have := (h.gd _ _ _ hsp).1.2.1
    refine this (List.mem_of_getElem? (i := i) ?_)
    rw [List.getElem?_take, if_pos hij, List.getElem?_eq_getElem hi, e]
  exact ⟨hn, hr, nodup_le hn hr⟩
/-- what is left where not all came: those of which something is not there -/
theorem Lr.left {ps : List Pr} {n : Nat} {P : Int → Bool} {os ms : List Int} {S : Nat → Prop} (h : Lr ps n P os S ms []) {x : Nat} (hx : x < n) : ms[x]! = 0 ↔ ∀ z, (⟨(x : Int), z⟩ : Pr) ∈ ps → z ∈ os := by
  rw [h.cnt x hx, ← cnE_zero]
  have : cnP [] (x : Int) = 0 := rfl
  omega
end Go.Proofs.YtgijcbipnjmhgabGreat

namespace Go.Proofs.YtgijcbipnjmhgabGreat
open Go.ChangeShapes Go.WideShapes Go.ChangeAt Go.RowKit
set_option linter.unusedVariables false
set_option linter.unusedSimpArgs false

theorem Lt.bnd {s : Nat} {S : Nat → Prop} {cs : List Int} (h : Lt s S cs 0 0) : ∀ (d j : Nat), 2 * s - j ≤ d → 1 ≤ j → j < 2 * s → 0 ≤ cs[j]! ∧ cs[j]! * (j : Int) ≤ 2 * (s : Int)
  | 0, j, hd, h1, h2 => by omega
  | d + 1, j, hd, h1, h2 => by
    by_cases hj : j < s
    · obtain ⟨a1, a2⟩ := Lt.bnd h d (2 * j) (by omega) (by omega) (by omega)
      obtain ⟨b1, b2⟩ := Lt.bnd h d (2 * j + 1) (by omega) (by omega) (by omega)
      have hi := h.inn j h1 hj
      rw [if_neg (by omega)] at hi
      generalize cs[2 * j]! = u at *
      generalize cs[2 * j + 1]! = v at *
      generalize cs[j]! = c at *
      refine ⟨by omega, ?_⟩
      have e : c = u + v := by omega
      subst e
      have h3 : 2 * ((u + v) * (j : Int)) = u * ((2 * j : Nat) : Int) + v * ((2 * j : Nat) : Int) := by
        rw [← Int.add_mul]
        push_cast
        rw [← Int.mul_assoc, Int.mul_comm 2 (u + v), Int.mul_assoc]
      have h4 : v * ((2 * j : Nat) : Int) ≤ v * ((2 * j + 1 : Nat) : Int) := Int.mul_le_mul_of_nonneg_left (by omega) b1
      omega
    · obtain ⟨y, rfl⟩ : ∃ y, j = s + y := ⟨j - s, by omega⟩
      have hle : cs[s + y]! = 0 ∨ cs[s + y]! = 1 := by
        by_cases hS : S y
        · have := h.one y (by omega) hS
          rw [if_neg (by omega)] at this
          exact .inr (by omega)
        · have := h.zer y (by omega) hS
          rw [if_neg (by omega)] at this
          exact .inl (by omega)
      rcases hle with e | e
      · rw [e]; omega
      · rw [e]; omega
theorem Lt.le {s j : Nat} {S : Nat → Prop} {cs : List Int} (h : Lt s S cs 0 0) (h1 : 1 ≤ j) (h2 : j < 2 * s) : 0 ≤ cs[j]! ∧ cs[j]! ≤ 2 * (s : Int) := by
  obtain ⟨a, b⟩ := h.bnd (2 * s) j (by omega) h1 h2
  refine ⟨a, ?_⟩
  have : cs[j]! * 1 ≤ cs[j]! * (j : Int) := Int.mul_le_mul_of_nonneg_left (by omega) a
  omega
/-- a set of numbers, as it lies: a box with the size and the row of counts -/
structure Lz (B bL gC s : Nat) (w : World) (S : Nat → Prop) : Prop where
  box : Bx w bL #[.int .i64 (s : Int), .slice (some ⟨gC, 0, none⟩) (2 * s) (2 * s)] 94
  row : ∃ cs, w.ownsRow B 3 1 (.slice (some ⟨gC, 0, none⟩) (2 * s) (2 * s)) (2 * s) (flat cs) ∧ Lt s S cs 0 0
  le : B ≤ bL
  s1 : 1 ≤ s
  s2 : s ≤ 131072
  pw : ∃ a, s = 2 ^ a
theorem Lz.below {B bL gC s : Nat} {w w' : World} {S : Nat → Prop} (h : Lz B bL gC s w S) (hb : Below w.heap.size w w') : Lz B bL gC s w' S :=
  ⟨(hb.block bL h.box.lt).trans h.box, by obtain ⟨cs, h1, h2⟩ := h.row; exact ⟨cs, own_belowR h1 hb (Nat.le_refl _), h2⟩, h.le, h.s1, h.s2, h.pw⟩
theorem Lz.congr {B bL gC s : Nat} {w : World} {S S' : Nat → Prop} (h : Lz B bL gC s w S) (hS : ∀ y, y < s → (S y ↔ S' y)) : Lz B bL gC s w S' :=
  ⟨h.box, by obtain ⟨cs, h1, h2⟩ := h.row; exact ⟨cs, h1, h2.len, h2.inn, fun y hy hs => h2.one y hy ((hS y hy).2 hs), fun y hy hs => h2.zer y hy (fun k => hs ((hS y hy).1 k))⟩, h.le, h.s1, h.s2, h.pw⟩
set_option maxRecDepth 1000000 in
set_option maxHeartbeats 2000000 in
theorem put_lows (B bL gC s x : Nat) (d : Int) (S S' : Nat → Prop) (w : World) (h : Lz B bL gC s w S) (hx : x < s) (hd : d = 1 ∨ d = -1) (hS : ∀ cs, Lt s S cs 0 0 → Lt s S' cs (s + x) d) :
    Calls Tryz.prog 32 #[.pointer (some ⟨bL, 0, none⟩), .int .i64 (x : Int), .int .i64 d] w fun e w' => (∃ r, e = .returned r) ∧ Lz B bL gC s w' S' ∧ One gC w w' := by
  obtain ⟨cs, ho, hl⟩ := h.row
  have hl2 := hS cs hl
  have hbnd : ∀ j, 1 ≤ j → j < 2 * s → 0 ≤ cs[j]! ∧ cs[j]! ≤ 2 * (s : Int) := fun j h1 h2 => hl.le h1 h2
  have HZ := hidH h
  have hs1 := h.s1
  have hs2 := h.s2
  have hne : bL ≠ gC := h.box.neR ho (by decide) rfl
  have c0 := h.box.cell 0
  have c1 := h.box.cell 1
  simp at c0 c1
  have HO := hidH ho
  have HL2 := hidH hl2
  have HBD := hidH hbnd
  have k0 : IntKind.i64.wrap ((s : Int) + (x : Int)) = ((s + x : Nat) : Int) := by rw [IntWalk.i64_in _ ⟨by omega, by omega⟩]; omega
  clear h ho hl hl2 hbnd hS
  go_enter Tryz.func32, Tryz.ntmps32
  go_wp2
  go_loopg [6] (s + x) (fun gk s6 wr => ∃ (k : Nat) (cs : List Int), gk = k ∧ s6 = .int .i64 (k : Int) ∧ k < 2 * s ∧ wr.ownsRow B 3 1 (.slice (some ⟨gC, 0, none⟩) (2 * s) (2 * s)) (2 * s) (flat cs) ∧ Lt s S' cs k d ∧ (∀ j, 1 ≤ j → j ≤ k → 0 ≤ cs[j]! ∧ cs[j]! ≤ 2 * (s : Int)) ∧ One gC w wr)
  case atStart => exact ⟨s + x, cs, rfl, rfl, by omega, HO.out, HL2.out, fun j h1 h2 => HBD.out j h1 (by omega), One.refl _ _⟩
  case round =>
    clear HO HL2 HBD
    obtain ⟨k, cs, hgk, rfl, hk, hO, hL, hB, hE⟩ := hrel
    have HO := hidH hO
    have HL := hidH hL
    have HBD := hidH hB
    have EE := hidH hE
    clear hO hL hB hE
    have hX : Bx wr bL #[.int .i64 (s : Int), .slice (some ⟨gC, 0, none⟩) (2 * s) (2 * s)] 94 := (EE.out.keep bL HZ.out.box.lt hne).trans HZ.out.box
    by_cases hk0 : 0 < k
    · have hk0' : (0 : Int) < (k : Int) := by omega
      have d0 := hX.cell 0
      have d1 := hX.cell 1
      simp at d0 d1
      have hkl : k < cs.length := by rw [HL.out.len]; exact hk
      obtain ⟨v, hv⟩ : ∃ v, cs[k]! = v := ⟨_, rfl⟩
      have hkv : cs[k]? = some v := by rw [List.getElem?_eq_getElem hkl, ← hv, getElem!_pos cs k hkl]
      have hvb := HBD.out k hk0 (Nat.le_refl _)
      rw [hv] at hvb
      obtain ⟨cK, fK⟩ := row_cell HO.out hkv
      have kv : IntKind.i64.wrap (v + d) = v + d := by rw [IntWalk.i64_in _ ⟨by omega, by omega⟩]
      obtain ⟨k2, hk2⟩ : ∃ k2, k / 2 = k2 := ⟨_, rfl⟩
      have kq : IntKind.i64.wrap ((k : Int).tdiv 2) = (k2 : Int) := by rw [Int.tdiv_eq_ediv_of_nonneg (by omega), IntWalk.i64_in _ ⟨by omega, by omega⟩]; omega
      have hk2s : (k : Int) < 2 * (s : Int) := by omega
      have O2 : Hid ((wr.setCell ⟨gC, k, none⟩ (.int .i64 (v + d))).ownsRow B 3 1 (.slice (some ⟨gC, 0, none⟩) (2 * s) (2 * s)) (2 * s) (flat (cs.set k (v + d)))) := by
        have h1 := (World.ownsRow.stored HO.out k (.int .i64 (v + d))).1
        rw [flat_setI] at h1
        exact h1
      have L2 : Hid (Lt s S' (cs.set k (v + d)) (k / 2) d) := by have h9 := HL.out.up hs1 hk0 hk; rw [hv] at h9; exact h9
      have B2 : Hid (∀ j, 1 ≤ j → j ≤ k / 2 → 0 ≤ (cs.set k (v + d))[j]! ∧ (cs.set k (v + d))[j]! ≤ 2 * (s : Int)) := fun j h1 h2 => by rw [get_set cs k j _ hkl, if_neg (by omega)]; exact HBD.out j h1 (by omega)
      have E2 := hidH (EE.out.trans (One.set gC k wr (.int .i64 (v + d))))
      rw [hk2] at L2 B2
      clear hv hkv hX
      go_wp2
      go_roundg k2
      case measure => omega
      case rel => exact ⟨k2, _, rfl, congrArg (Value.int .i64) (by omega), by omega, O2.out, L2.out, B2.out, E2.out⟩
    · have hk0' : ¬ (0 : Int) < (k : Int) := by omega
      have hk2 : k = 0 := by omega
      have L0 : Hid (Lt s S' cs 0 0) := by have h9 := HL.out; rw [hk2] at h9; exact h9.zero hs1
      go_wp2
      refine bodyPost_end (results_none rfl _ _ _) rfl ?_
      exact ⟨⟨_, rfl⟩, ⟨hX, ⟨cs, HO.out, L0.out⟩, HZ.out.le, hs1, hs2, HZ.out.pw⟩, EE.out⟩
theorem put_in (B bL gC s x : Nat) (S : Nat → Prop) (w : World) (h : Lz B bL gC s w S) (hx : x < s) (hS : ¬ S x) :
    Calls Tryz.prog 32 #[.pointer (some ⟨bL, 0, none⟩), .int .i64 (x : Int), .int .i64 1] w fun e w' => (∃ r, e = .returned r) ∧ Lz B bL gC s w' (fun y => S y ∨ y = x) ∧ One gC w w' :=
  put_lows B bL gC s x 1 S _ w h hx (.inl rfl) (fun cs hl => (hl.put h.s1 hx).1 hS)
theorem put_out (B bL gC s x : Nat) (S : Nat → Prop) (w : World) (h : Lz B bL gC s w S) (hx : x < s) (hS : S x) :
    Calls Tryz.prog 32 #[.pointer (some ⟨bL, 0, none⟩), .int .i64 (x : Int), .int .i64 (-1)] w fun e w' => (∃ r, e = .returned r) ∧ Lz B bL gC s w' (fun y => S y ∧ y ≠ x) ∧ One gC w w' :=
  put_lows B bL gC s x (-1) S _ w h hx (.inr rfl) (fun cs hl => (hl.put h.s1 hx).2 hS)
set_option maxRecDepth 1000000 in
set_option maxHeartbeats 2000000 in
theorem least_no (B bL gC s : Nat) (S : Nat → Prop) (w : World) (h : Lz B bL gC s w S) (hS : ∀ y, y < s → ¬ S y) :
    Calls Tryz.prog 33 #[.pointer (some ⟨bL, 0, none⟩)] w fun e w' => e = .returned (.int .i64 (-1)) ∧ w' = w := by
  obtain ⟨cs, ho, hl⟩ := h.row
  obtain ⟨a, ha⟩ := h.pw
  have h1 : cs[1]! = 0 := (hl.sum a 1 (by omega) (by omega) (by omega)).2.2.2 (fun y hy _ _ => hS y hy)
  have hs1 := h.s1
  have hkl : 1 < cs.length := by rw [hl.len]; omega
  have hkv : cs[1]? = some 0 := by rw [List.getElem?_eq_getElem hkl, ← getElem!_pos cs 1 hkl, h1]
  have cK := (row_cell ho hkv).1
  have c1 := h.box.cell 1
  simp at c1
  have h2 : (1 : Int) < 2 * (s : Int) := by omega
  clear h ho hl ha h1 hkv hS
  go_enter Tryz.func33, Tryz.ntmps33
  go_wp2
  go_ret
  exact ⟨rfl, rfl⟩
set_option maxRecDepth 1000000 in
set_option maxHeartbeats 2000000 in
theorem least_yes (B bL gC s : Nat) (S : Nat → Prop) (w : World) (h : Lz B bL gC s w S) (hS : ∃ y, y < s ∧ S y) :
    Calls Tryz.prog 33 #[.pointer (some ⟨bL, 0, none⟩)] w fun e w' => w' = w ∧ ∃ x : Nat, e = .returned (.int .i64 (x : Int)) ∧ x < s ∧ S x ∧ ∀ y, y < s → S y → x ≤ y := by
  obtain ⟨cs, ho, hl⟩ := h.row
  obtain ⟨a, ha⟩ := h.pw
  have h1 : cs[1]! ≠ 0 := fun e => by
    obtain ⟨y, hy, hs⟩ := hS
    exact (hl.sum a 1 (by omega) (by omega) (by omega)).2.2.1 e y hy (by omega) (by omega) hs
  have D0 : Hid (Ld2 s S cs 1 a) := ⟨by omega, by omega, by omega, h1, fun y hy _ => by omega⟩
  have hs1 := h.s1
  have hs2 := h.s2
  have HL := hidH hl
  have HO := hidH ho
  have CE : Hid (∀ k, 1 ≤ k → k < 2 * s → w.cell? ⟨gC, k, none⟩ = some (.int .i64 cs[k]!)) := fun k hk1 hk2 => by
    have hkl : k < cs.length := by rw [HL.out.len]; exact hk2
    exact (row_cell HO.out (by rw [List.getElem?_eq_getElem hkl, ← getElem!_pos cs k hkl])).1
  have c0 := h.box.cell 0
  have c1 := h.box.cell 1
  simp at c0 c1
  have cK := CE.out 1 (by omega) (by omega)
  obtain ⟨v, hv⟩ : ∃ v, cs[1]! = v := ⟨_, rfl⟩
  rw [hv] at cK h1
  have hv1 : (v == 0) = false := by rw [beq_eq_false_iff_ne]; exact h1
  have h2 : (1 : Int) < 2 * (s : Int) := by omega
  clear h ho hl ha hv hS
  go_enter Tryz.func33, Tryz.ntmps33
  go_wp2
  go_loopg [3] (2 * s) (fun gk s3 wr => ∃ k a : Nat, gk = 2 * s - (k - 1) ∧ s3 = .int .i64 (k : Int) ∧ Ld2 s S cs k a ∧ wr = w)
  case atStart => exact ⟨1, a, by omega, rfl, D0.out, rfl⟩
  case round =>
    clear D0
    obtain ⟨k, a, hgk, rfl, hD, rfl⟩ := hrel
    have DD := hidH hD
    have hk1 := hD.k1
    have hkn := hD.not
    clear hD
    by_cases hks : k < s
    · have hks' : (k : Int) < (s : Int) := by omega
      obtain ⟨b, rfl⟩ := hkn.1 hks
      obtain ⟨dA, dB⟩ := DD.out.down HL.out
      have k2 : IntKind.i64.wrap (2 * (k : Int)) = ((2 * k : Nat) : Int) := by rw [IntWalk.i64_in _ ⟨by omega, by omega⟩]; omega
      have k3 : IntKind.i64.wrap ((2 * k : Nat) : Int) = ((2 * k : Nat) : Int) := by rw [IntWalk.i64_in _ ⟨by omega, by omega⟩]
      have k4 : IntKind.i64.wrap (2 * (k : Int) + 1) = ((2 * k + 1 : Nat) : Int) := by rw [IntWalk.i64_in _ ⟨by omega, by omega⟩]; omega
      have c2 := CE.out (2 * k) (by omega) (by omega)
      have h2k : 2 * (k : Int) < 2 * (s : Int) := by omega
      have HA := hidH dA
      have HBb := hidH dB
      obtain ⟨v2, hv2⟩ : ∃ v2, cs[2 * k]! = v2 := ⟨_, rfl⟩
      rw [hv2] at c2 HA HBb
      clear dA dB hkn hv2
      by_cases h0 : v2 = 0
      · subst h0
        have D2 := hidH (HBb.out rfl)
        go_wp2
        go_roundg (2 * s - (2 * k + 1 - 1))
        case measure => omega
        case rel => exact ⟨2 * k + 1, b, rfl, by simp, D2.out, rfl⟩
      · have h01 : (v2 == 0) = false := by rw [beq_eq_false_iff_ne]; exact h0
        have D2 := hidH (HA.out h0)
        go_wp2
        go_roundg (2 * s - (2 * k - 1))
        case measure => omega
        case rel => exact ⟨2 * k, b, rfl, by simp, D2.out, rfl⟩
    · have hks' : ¬ (k : Int) < (s : Int) := by omega
      have ha0 := hkn.2 (by omega)
      subst ha0
      obtain ⟨x, hx, hxs, hSx, hmin⟩ := DD.out.leaf HL.out
      have kx : IntKind.i64.wrap ((k : Int) - (s : Int)) = (x : Int) := by rw [IntWalk.i64_in _ ⟨by omega, by omega⟩]; omega
      have HMI := hidH hmin
      have HSX := hidH hSx
      clear hmin hSx hkn hx
      go_wp2
      go_ret
      exact ⟨rfl, x, rfl, hxs, HSX.out, HMI.out⟩
set_option maxRecDepth 1000000 in
set_option maxHeartbeats 2000000 in
theorem newLows_any (n : Nat) (w : World) (hn : n ≤ 131072) :
    Calls Tryz.prog 31 #[.int .i64 (n : Int)] w fun e w' => Below w.heap.size w w' ∧ ∃ bL : Nat, e = .returned (.pointer (some ⟨bL, 0, none⟩)) ∧ ∃ s : Nat, n ≤ s ∧ Lz w.heap.size bL w.heap.size s w' (fun _ => False) := by
  obtain ⟨i0, hi0, hz0, hz1, hz2⟩ := info_parts infoIntH
  go_enter Tryz.func31, Tryz.ntmps31
  go_wp2
  go_loopg [3] 18 (fun gk s3 wr => ∃ s a : Nat, gk = 18 - a ∧ s3 = .int .i64 (s : Int) ∧ s = 2 ^ a ∧ a ≤ 17 ∧ wr = w)
  case atStart => exact ⟨1, 0, rfl, rfl, rfl, by omega, rfl⟩
  case round =>
    obtain ⟨s, a, hgk, rfl, hs, ha, rfl⟩ := hrel
    have HS := hidH hs
    have hs1 : 1 ≤ s := by rw [hs]; exact Nat.one_le_two_pow
    have hs2 : s ≤ 131072 := by rw [hs]; exact Nat.le_trans (Nat.pow_le_pow_right (by omega) ha) (by decide)
    clear hs
    by_cases hsn : s < n
    · have hsn' : (s : Int) < (n : Int) := by omega
      have ha2 : a < 17 := by
        by_cases h : a < 17
        · exact h
        · have h9 := HS.out
          rw [show a = 17 by omega] at h9
          have : (2 : Nat) ^ 17 = 131072 := by decide
          omega
      have k2 : IntKind.i64.wrap ((s : Int) * 2) = ((s * 2 : Nat) : Int) := by rw [IntWalk.i64_in _ ⟨by omega, by omega⟩]; omega
      go_wp2
      go_roundg (18 - (a + 1))
      case measure => omega
      case rel => exact ⟨s * 2, a + 1, rfl, by simp, by rw [HS.out, Nat.pow_succ], by omega, rfl⟩
    · have hsn' : ¬ (s : Int) < (n : Int) := by omega
      have k2 : IntKind.i64.wrap (2 * (s : Int)) = ((2 * s : Nat) : Int) := by rw [IntWalk.i64_in _ ⟨by omega, by omega⟩]; omega
      obtain ⟨B, hB⟩ : ∃ B, wr.heap.size = B := ⟨_, rfl⟩
      go_wp2_with (at_make; refine wpList_make_full _ rfl _ _ 32 rfl B 3 i0 (.int .i64 0) 1 Tryz.underlying32 hi0 hz0 hz1 _ _ _ _ (2 * s) rfl rfl (by simp) (by simp) (by rw [hz2]; omega) (by unfold maxLen; omega) (by omega) ?_; intro v1 hown1 hgr1; rw [hB] at hown1 ⊢; have O1 : Hid (v1.ownsRow B 3 1 (.slice (some ⟨B, 0, none⟩) (2 * s) (2 * s)) (2 * s) (flat (List.replicate (2 * s) (0 : Int)))) := (by rw [show (Value.int .i64 0).cells = #[.int .i64 0] by rfl, rep_made] at hown1; unfold Hid; rw [show flat (List.replicate (2 * s) (0 : Int)) = List.replicate (2 * s) (Value.int .i64 0) by rw [flat_ints, List.map_replicate]]; exact hown1); have E1 : Hid (Below B wr v1) := ((Below.refl _ _).grown hgr1 (by omega) (fun k h => by cases h)); clear hown1 hgr1)
      obtain ⟨v2, e2, hb2, hs2', X2⟩ := bx1 v1 #[.int .i64 (s : Int), .slice (some ⟨B, 0, none⟩) (2 * s) (2 * s)] 94
      have hB1 := (O1.out.lt B rfl).2
      rw [e2]
      go_ret
      refine ⟨E1.out.trans (hb2.mono (by omega)), v1.heap.size, rfl, s, by omega, X2, ⟨_, own_belowR O1.out hb2 (Nat.le_refl _), Lt.start⟩, by omega, hs1, hs2, a, HS.out⟩
end Go.Proofs.YtgijcbipnjmhgabGreat
