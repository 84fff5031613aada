import Derived.Test.YtgijcbipnjmhgabGreatFa4
import Derived.Test.YtgijcbipnjmhgabGreatPt2
import Derived.Test.YtgijcbipnjmhgabGreatSmN
import Derived.BigQuiet
namespace Go.Proofs.YtgijcbipnjmhgabGreat
set_option linter.unusedVariables false
set_option linter.unusedSimpArgs false

theorem Gn.nodup {S : Int → Prop} {R : Int → Int → Prop} {os : List Int} (h : Gn S R os) : os.Nodup := by
  have key : ∀ a ps : List Int, os = ps ++ a → ps.Nodup → (ps ++ a).Nodup := by
    intro a
    induction a with
    | nil => intro ps _ hn; rw [List.append_nil]; exact hn
    | cons x a ih =>
      intro ps e hn
      have h1 := (h.gd ps x a e).1.2.1
      have h2 := ih (ps ++ [x]) (by rw [e]; simp) (by
        rw [List.nodup_append]
        exact ⟨hn, by simp, fun a ha b hb e => h1 (by rw [List.mem_singleton] at hb; rw [← hb, ← e]; exact ha)⟩)
      rwa [List.append_assoc, List.singleton_append] at h2
  exact key os [] rfl List.nodup_nil
theorem at_uniq {l : List Int} (hn : l.Nodup) {i j : Nat} {x : Int} (hi : l[i]? = some x) (hj : l[j]? = some x) : i = j := by
  obtain ⟨l1, e1⟩ := List.getElem?_eq_some_iff.1 hi
  obtain ⟨l2, e2⟩ := List.getElem?_eq_some_iff.1 hj
  have hpw := List.pairwise_iff_getElem.1 hn
  rcases Nat.lt_trichotomy i j with h | h | h
  · exact absurd (e1.trans e2.symm) (hpw i j l1 l2 h)
  · exact h
  · exact absurd (e2.trans e1.symm) (hpw j i l2 l1 h)
theorem Gn.before {S : Int → Prop} {R : Int → Int → Prop} {os : List Int} (h : Gn S R os) {i j : Nat} {x z : Int} (hi : os[i]? = some x) (hj : os[j]? = some z) (hz : R x z) : j < i := by
  obtain ⟨l1, e1⟩ := List.getElem?_eq_some_iff.1 hi
  have hsp : os = os.take i ++ x :: os.drop (i + 1) := by rw [← e1, List.getElem_cons_drop, List.take_append_drop]
  have h1 := (h.gd _ _ _ hsp).1.2.2 z hz
  obtain ⟨k, hk⟩ := List.getElem?_of_mem h1
  have hki : k < i := by
    have := (List.getElem?_eq_some_iff.1 hk).1
    rw [List.length_take] at this
    omega
  rw [List.getElem?_take, if_pos hki] at hk
  rw [at_uniq h.nodup hj hk]
  exact hki
/-- where the parts stand: the lowest things, lined up -/
def los (lw : Nat → Nat) (os : List Int) : List Int := os.filter fun x => decide ((lw x.toNat : Int) = x)
theorem pts_los (n : Nat) (lw : Nat → Nat) (os : List Int) : pts n lw os = (los lw os).map fun x => mem1 n lw x.toNat := rfl
theorem los_gn {ps : List Pr} {n : Nat} {lw : Nat → Nat} {N : Nat → List Int} {os : List Int} (h : Lws ps n lw) (hN : LstR n (btw lw ps) N) (hl : Ln N n os) : Gn (fun x => (0 ≤ x ∧ x < (n : Int)) ∧ decide ((lw x.toNat : Int) = x) = true) (fun x z => (⟨x, z⟩ : Pr) ∈ btw lw ps) (los lw os) :=
  (hl.gn hN).filter _ fun x hx hp z hz => by
    obtain ⟨p, hp, -, -, rfl⟩ := mem_btw.1 hz
    have := h.rng p hp
    rw [decide_eq_true_eq, show ((lw p.b.toNat : Int)).toNat = lw p.b.toNat by omega, h.idem (x := p.b.toNat) (by omega)]
end Go.Proofs.YtgijcbipnjmhgabGreat

namespace Go.Proofs.YtgijcbipnjmhgabGreat
set_option linter.unusedVariables false
set_option linter.unusedSimpArgs false

/-- a tree of counts over s leaves: each inner node counts its two; e: what is still to be added at node k -/
structure Lt (s : Nat) (S : Nat → Prop) (cs : List Int) (k : Nat) (e : Int) : Prop where
  len : cs.length = 2 * s
  inn : ∀ j, 1 ≤ j → j < s → cs[j]! + (if j = k then e else 0) = cs[2 * j]! + cs[2 * j + 1]!
  one : ∀ y, y < s → S y → cs[s + y]! + (if s + y = k then e else 0) = 1
  zer : ∀ y, y < s → ¬ S y → cs[s + y]! + (if s + y = k then e else 0) = 0
theorem Lt.start {s : Nat} : Lt s (fun _ => False) (List.replicate (2 * s) 0) 0 0 := by
  have h0 : ∀ j : Nat, (List.replicate (2 * s) (0 : Int))[j]! = 0 := fun j => by
    by_cases h : j < 2 * s
    · rw [getElem!_pos _ _ (by simpa using h)]; simp
    · rw [getElem!_neg _ _ (by simpa using h)]; rfl
  exact ⟨by simp, fun j _ _ => by rw [h0, h0, h0]; simp, fun y _ h => h.elim, fun y _ _ => by rw [h0]; simp⟩
/-- Put begins: a leaf is to be changed -/
theorem Lt.put {s x : Nat} {S : Nat → Prop} {cs : List Int} (h : Lt s S cs 0 0) (hs : 1 ≤ s) (hx : x < s) : (¬ S x → Lt s (fun y => S y ∨ y = x) cs (s + x) 1) ∧ (S x → Lt s (fun y => S y ∧ y ≠ x) cs (s + x) (-1)) := by
  have i0 := h.inn
  have h1 := h.one
  have h2 := h.zer
  refine ⟨fun hn => ⟨h.len, fun j hj1 hj2 => ?_, fun y hy hS => ?_, fun y hy hS => ?_⟩, fun hn => ⟨h.len, fun j hj1 hj2 => ?_, fun y hy hS => ?_, fun y hy hS => ?_⟩⟩
  · rw [if_neg (by omega)]; have := i0 j hj1 hj2; rwa [if_neg (by omega)] at this
  · by_cases e : y = x
    · subst e; rw [if_pos rfl]; have := h2 y hy hn; rw [if_neg (by omega)] at this; omega
    · rw [if_neg (by omega)]; have := h1 y hy (hS.resolve_right e); rwa [if_neg (by omega)] at this
  · have e : y ≠ x := fun e => hS (.inr e)
    rw [if_neg (by omega)]; have := h2 y hy (fun h => hS (.inl h)); rwa [if_neg (by omega)] at this
  · rw [if_neg (by omega)]; have := i0 j hj1 hj2; rwa [if_neg (by omega)] at this
  · rw [if_neg (by have := hS.2; omega)]; have := h1 y hy hS.1; rwa [if_neg (by omega)] at this
  · by_cases e : y = x
    · subst e; rw [if_pos rfl]; have := h1 y hy hn; rw [if_neg (by omega)] at this; omega
    · rw [if_neg (by omega)]; have := h2 y hy (fun h => hS ⟨h, e⟩); rwa [if_neg (by omega)] at this
/-- Put goes up -/
theorem Lt.up {s k : Nat} {e : Int} {S : Nat → Prop} {cs : List Int} (h : Lt s S cs k e) (hs : 1 ≤ s) (hk : 0 < k) (hk2 : k < 2 * s) : Lt s S (cs.set k (cs[k]! + e)) (k / 2) e := by
  have hl : k < cs.length := by rw [h.len]; exact hk2
  refine ⟨by rw [List.length_set]; exact h.len, fun j hj1 hj2 => ?_, fun y hy hS => ?_, fun y hy hS => ?_⟩
  · have h1 := h.inn j hj1 hj2
    rw [get_set cs k j _ hl, get_set cs k (2 * j) _ hl, get_set cs k (2 * j + 1) _ hl]
    by_cases e1 : j = k
    · subst e1
      rw [if_pos rfl] at h1
      rw [if_pos rfl, if_neg (by omega), if_neg (by omega), if_neg (by omega)]
      omega
    · rw [if_neg e1] at h1
      rw [if_neg e1]
      by_cases e2 : j = k / 2
      · rw [if_pos e2]
        by_cases e3 : 2 * j = k
        · have e5 : cs[2 * j]! = cs[k]! := by rw [e3]
          rw [if_pos e3, if_neg (by omega)]; omega
        · have e4 : 2 * j + 1 = k := by omega
          rw [if_neg e3, if_pos e4]; rw [e4] at h1; omega
      · rw [if_neg e2, if_neg (by omega), if_neg (by omega)]; omega
  · have h1 := h.one y hy hS
    rw [get_set cs k _ _ hl]
    by_cases e1 : s + y = k
    · rw [if_pos e1] at h1 ⊢; rw [if_neg (by omega)]; rw [e1] at h1; omega
    · rw [if_neg e1] at h1 ⊢; rw [if_neg (by omega)]; exact h1
  · have h1 := h.zer y hy hS
    rw [get_set cs k _ _ hl]
    by_cases e1 : s + y = k
    · rw [if_pos e1] at h1 ⊢; rw [if_neg (by omega)]; rw [e1] at h1; omega
    · rw [if_neg e1] at h1 ⊢; rw [if_neg (by omega)]; exact h1
theorem Lt.zero {s : Nat} {e : Int} {S : Nat → Prop} {cs : List Int} (h : Lt s S cs 0 e) (hs : 1 ≤ s) : Lt s S cs 0 0 :=
  ⟨h.len, fun j hj1 hj2 => by have := h.inn j hj1 hj2; rw [if_neg (by omega)] at this ⊢; exact this, fun y hy hS => by have := h.one y hy hS; rw [if_neg (by omega)] at this ⊢; exact this, fun y hy hS => by have := h.zer y hy hS; rw [if_neg (by omega)] at this ⊢; exact this⟩
open Classical in
/-- a node's count: between nothing and its leaves; nothing just where it has none -/
theorem Lt.sum {s : Nat} {S : Nat → Prop} {cs : List Int} (h : Lt s S cs 0 0) : ∀ (a k : Nat), 1 ≤ k → s ≤ k * 2 ^ a → k * 2 ^ a + 2 ^ a ≤ 2 * s → 0 ≤ cs[k]! ∧ cs[k]! ≤ (2 ^ a : Nat) ∧ (cs[k]! = 0 ↔ ∀ y, y < s → k * 2 ^ a ≤ s + y → s + y < k * 2 ^ a + 2 ^ a → ¬ S y)
  | 0, k, hk, h1, h2 => by
    simp only [Nat.pow_zero, Nat.mul_one] at h1 h2 ⊢
    obtain ⟨y, rfl⟩ : ∃ y, k = s + y := ⟨k - s, by omega⟩
    by_cases hS : S y
    · have := h.one y (by omega) hS
      rw [if_neg (by omega)] at this
      refine ⟨by omega, by omega, ⟨fun e => by omega, fun e => absurd hS (e y (by omega) (by omega) (by omega))⟩⟩
    · have := h.zer y (by omega) hS
      rw [if_neg (by omega)] at this
      refine ⟨by omega, by omega, ⟨fun _ z hz1 hz2 hz3 => by rw [show z = y by omega]; exact hS, fun _ => by omega⟩⟩
  | a + 1, k, hk, h1, h2 => by
    have e1 : k * 2 ^ (a + 1) = 2 * k * 2 ^ a := by rw [Nat.pow_succ, Nat.mul_comm 2 k, Nat.mul_assoc, Nat.mul_comm (2 ^ a) 2]
    have e2 : (2 * k + 1) * 2 ^ a = 2 * k * 2 ^ a + 2 ^ a := by rw [Nat.add_mul, Nat.one_mul]
    have e3 : 2 ^ (a + 1) = 2 ^ a + 2 ^ a := by rw [Nat.pow_succ]; omega
    rw [e1, e3] at h2
    rw [e1] at h1
    have hp : 1 ≤ 2 ^ a := Nat.one_le_two_pow
    obtain ⟨a1, a2, a3⟩ := Lt.sum h a (2 * k) (by omega) h1 (by omega)
    obtain ⟨b1, b2, b3⟩ := Lt.sum h a (2 * k + 1) (by omega) (by omega) (by omega)
    have hks : k < s := by
      have : 2 * k * 1 ≤ 2 * k * 2 ^ a := Nat.mul_le_mul_left _ hp
      omega
    have hi := h.inn k hk hks
    rw [if_neg (by omega)] at hi
    refine ⟨by omega, by rw [e3]; omega, ?_⟩
    rw [e1, e3]
    constructor
    · intro e y hy hy1 hy2
      by_cases hlt : s + y < 2 * k * 2 ^ a + 2 ^ a
      · exact a3.1 (by omega) y hy hy1 hlt
      · exact b3.1 (by omega) y hy (by omega) (by omega)
    · intro e
      have q1 := a3.2 fun y hy hy1 hy2 => e y hy hy1 (by omega)
      have q2 := b3.2 fun y hy hy1 hy2 => e y hy (by omega) (by omega)
      omega
/-- Least goes down: nothing stands left of node k, which counts something -/
structure Ld2 (s : Nat) (S : Nat → Prop) (cs : List Int) (k a : Nat) : Prop where
  k1 : 1 ≤ k
  lo : s ≤ k * 2 ^ a
  hi : k * 2 ^ a + 2 ^ a ≤ 2 * s
  pos : cs[k]! ≠ 0
  left : ∀ y, y < s → S y → k * 2 ^ a ≤ s + y
theorem Ld2.down {s k a : Nat} {S : Nat → Prop} {cs : List Int} (h : Lt s S cs 0 0) (d : Ld2 s S cs k (a + 1)) : (cs[2 * k]! ≠ 0 → Ld2 s S cs (2 * k) a) ∧ (cs[2 * k]! = 0 → Ld2 s S cs (2 * k + 1) a) := by
  have e1 : k * 2 ^ (a + 1) = 2 * k * 2 ^ a := by rw [Nat.pow_succ, Nat.mul_comm 2 k, Nat.mul_assoc, Nat.mul_comm (2 ^ a) 2]
  have e2 : (2 * k + 1) * 2 ^ a = 2 * k * 2 ^ a + 2 ^ a := by rw [Nat.add_mul, Nat.one_mul]
  have e3 : 2 ^ (a + 1) = 2 ^ a + 2 ^ a := by rw [Nat.pow_succ]; omega
  obtain ⟨k1, lo, hi, pos, left⟩ := d
  rw [e1] at lo
  rw [e1, e3] at hi
  have hp : 1 ≤ 2 ^ a := Nat.one_le_two_pow
  refine ⟨fun hne => ⟨by omega, lo, by omega, hne, fun y hy hS => by have := left y hy hS; omega⟩, fun h0 => ⟨by omega, by omega, by omega, ?_, fun y hy hS => ?_⟩⟩
  · have hks : k < s := by
      have : 2 * k * 1 ≤ 2 * k * 2 ^ a := Nat.mul_le_mul_left _ hp
      omega
    have := h.inn k k1 hks
    rw [if_neg (by omega)] at this
    omega
  · have := left y hy hS
    rw [e1] at this
    have h3 := (h.sum a (2 * k) (by omega) lo (by omega)).2.2.1 h0
    apply Classical.byContradiction
    intro hlt
    exact h3 y hy this (by omega) hS
theorem Ld2.leaf {s k : Nat} {S : Nat → Prop} {cs : List Int} (h : Lt s S cs 0 0) (d : Ld2 s S cs k 0) : ∃ x, k = s + x ∧ x < s ∧ S x ∧ ∀ y, y < s → S y → x ≤ y := by
  obtain ⟨k1, lo, hi, pos, left⟩ := d
  simp only [Nat.pow_zero, Nat.mul_one] at lo hi left
  obtain ⟨x, rfl⟩ : ∃ x, k = s + x := ⟨k - s, by omega⟩
  refine ⟨x, rfl, by omega, ?_, fun y hy hS => by have := left y hy hS; omega⟩
  apply Classical.byContradiction
  intro hS
  have := h.zer x (by omega) hS
  rw [if_neg (by omega)] at this
  omega
theorem Ld2.not {s k a : Nat} {S : Nat → Prop} {cs : List Int} (d : Ld2 s S cs k a) : (k < s → ∃ b, a = b + 1) ∧ (s ≤ k → a = 0) := by
  obtain ⟨k1, lo, hi, pos, left⟩ := d
  constructor
  · intro hk
    cases a with
    | zero => simp at lo; omega
    | succ b => exact ⟨b, rfl⟩
  · intro hk
    cases a with
    | zero => rfl
    | succ b =>
      have hp : 1 ≤ 2 ^ b := Nat.one_le_two_pow
      have e3 : 2 ^ (b + 1) = 2 ^ b + 2 ^ b := by rw [Nat.pow_succ]; omega
      have h2 : k * 2 ≤ k * 2 ^ (b + 1) := Nat.mul_le_mul_left _ (by omega)
      omega
end Go.Proofs.YtgijcbipnjmhgabGreat

namespace Go.Proofs.YtgijcbipnjmhgabGreat
open Go.ChangeShapes Go.WideShapes Go.ChangeAt Go.RowKit
set_option linter.unusedVariables false
set_option linter.unusedSimpArgs false

set_option maxRecDepth 1000000 in
theorem parts_bad (n : Int) (a : Option Addr) (cap : Nat) (ps : List Pr) (w : World) (hL : LiesA w a ps) (hm : ps.length ≤ 8796093022208) (h : things n ps = false) :
    Calls Tryz.prog 6 #[.int .i64 n, .slice a ps.length cap] w fun e w' => e = .returned (.tuple #[.slice none 0 0, .int .i64 1]) ∧ Below w.heap.size w w' := by
  have AT : Hid (Calls Tryz.prog 17 #[.int .i64 n, .slice a ps.length cap] w fun e w' => e = .returned (.bool (things n ps)) ∧ Below w.heap.size w w') := areThings_any n a cap ps w hL (by omega)
  rw [h] at AT
  go_enter Tryz.func6, Tryz.ntmps6
  go_wp2_with (go_at_call 17; (with_reducible refine AT.out.mono ?_); rintro e v1 ⟨rfl, hb1⟩; have HB1 := hidH hb1; clear hb1)
  go_ret2
  exact ⟨rfl, HB1.out⟩
end Go.Proofs.YtgijcbipnjmhgabGreat

namespace Go.Proofs.YtgijcbipnjmhgabGreat
open Go.ChangeShapes Go.WideShapes Go.ChangeAt Go.RowKit
set_option linter.unusedVariables false
set_option linter.unusedSimpArgs false

theorem own_lies7 {w : World} {B : Nat} {v : Value} {zs : List Int} (h : w.ownsRow B 3 1 v zs.length (zs.map (Value.int .i64))) : (∃ a c, v = .slice a zs.length c ∧ LiesA w a zs) ∧ zs.length ≤ maxLen := by
  rw [← flat_ints] at h
  obtain ⟨a, c, hv, hl, -⟩ := own_form (α := Int) h
  refine ⟨⟨a, c, hv, hl⟩, ?_⟩
  rcases h.2 with ⟨-, h0⟩ | ⟨g, cap2, cur, -, -, -, h1, h2, -⟩
  · rw [h0]; exact Nat.zero_le _
  · omega
/-- rows of rows, as they are read -/
def Rq6 (B : Nat) (w : World) (a : Option Addr) (pss : List (List Int)) : Prop := ∀ (i : Nat) p, pss[i]? = some p → ∃ g u c, a = some ⟨g, 0, none⟩ ∧ g < B ∧ w.cell? ⟨g, i, none⟩ = some (.slice u p.length c) ∧ LiesA w u p ∧ p.length ≤ maxLen
theorem Rv.rq {B : Nat} {w : World} {v : Value} {pss : List (List Int)} (h : Rv B w v pss) : ∃ a c, v = .slice a pss.length c ∧ Rq6 w.heap.size w a pss ∧ pss.length ≤ maxLen := by
  obtain ⟨vals, ho, hl, hr⟩ := h
  obtain ⟨a, c, hv, ha, -⟩ := own_slice ho
  refine ⟨a, c, by rw [hv, hl], fun i p hp => ?_, ?_⟩
  · have hi := (List.getElem?_eq_some_iff.1 hp).1
    obtain ⟨g, rfl⟩ := ha (by omega)
    obtain ⟨u, hu, hou⟩ := hr i p hp
    obtain ⟨⟨a', c', rfl, hl'⟩, hm'⟩ := own_lies7 hou
    have h1 := ho.cells (g := g) (by rw [hv]; rfl) i (.slice a' p.length c') hu
    rw [addr_add, Nat.zero_add] at h1
    exact ⟨g, a', c', rfl, by rw [hv] at ho; exact (ho.lt g rfl).2, h1, hl', hm'⟩
  · rcases ho.2 with ⟨-, h0⟩ | ⟨g, cap2, cur, -, -, -, h1, h2, -⟩
    · rw [← hl, h0]; exact Nat.zero_le _
    · omega
set_option maxRecDepth 1000000 in
set_option maxHeartbeats 2000000 in
theorem sameParts_any (a1 a2 : Option Addr) (c1 c2 : Nat) (pss : List (List Int)) (w : World) (h1 : Rq6 w.heap.size w a1 pss) (h2 : Rq6 w.heap.size w a2 pss) (hm : pss.length ≤ maxLen) :
    Calls Tryz.prog 14 #[.slice a1 pss.length c1, .slice a2 pss.length c2] w fun e w' => e = .returned (.bool true) ∧ Below w.heap.size w w' := by
  unfold maxLen at hm
  have H1 := hidH h1
  have H2 := hidH h2
  obtain ⟨m, hmm⟩ : ∃ m, pss.length = m := ⟨_, rfl⟩
  have HM := hidH hmm
  rw [hmm] at hm ⊢
  clear h1 h2 hmm
  go_enter Tryz.func14, Tryz.ntmps14
  go_upto_region 4 with fail
  go_loopg [13] m (fun gk s13 wr => ∃ k : Nat, gk = m - k ∧ s13 = .int .i64 (k : Int) ∧ k ≤ m ∧ Below w.heap.size w wr)
  case atStart => exact ⟨0, rfl, rfl, Nat.zero_le _, Below.refl _ _⟩
  case round =>
    obtain ⟨k, hgk, rfl, hk, hE⟩ := hrel
    have EE := hidH hE
    clear hE
    by_cases hkm : k < m
    · have hkm' : (k : Int) < (m : Int) := by omega
      have kk : IntKind.i64.wrap ((k : Int) + 1) = ((k + 1 : Nat) : Int) := by rw [IntWalk.i64_in _ ⟨by omega, by omega⟩]; omega
      obtain ⟨p, hp⟩ : ∃ p, pss[k]? = some p := ⟨_, List.getElem?_eq_getElem (by rw [HM.out]; exact hkm)⟩
      obtain ⟨g1, u1, d1, rfl, hg1, e1, l1, hpm⟩ := H1.out k p hp
      obtain ⟨g2, u2, d2, rfl, hg2, e2, l2, -⟩ := H2.out k p hp
      have cA := (EE.out.cell (p := ⟨g1, k, none⟩) hg1).trans e1
      have cB := (EE.out.cell (p := ⟨g2, k, none⟩) hg2).trans e2
      have L1 := hidH (l1.below EE.out)
      have L2 := hidH (l2.below EE.out)
      have CS : Hid (∀ m, Calls Tryz.prog 13 #[.slice u1 p.length d1, .slice u2 p.length d2] (wr.drewN m) fun e w' => e = .returned (.bool true) ∧ ∃ m', w' = (wr.drewN m).drewN m') := fun m => same_intsD u1 u2 d1 d2 p _ (L1.out.below ⟨rfl, rfl, rfl, Nat.le_refl _, fun _ _ => rfl⟩) (L2.out.below ⟨rfl, rfl, rfl, Nat.le_refl _, fun _ _ => rfl⟩) hpm
      clear hp e1 e2 l1 l2 hpm L1 L2
      go_upto_region 6 with fail
      go_quiet (first | (go_at_call 13; with_reducible exact Calls.quiet_of (CS.out _)))
      have E2 : Hid (Below w.heap.size w (wr.drewN nq)) := EE.out.trans ⟨rfl, rfl, rfl, Nat.le_refl _, fun _ _ => rfl⟩
      go_wp2_with fail
      go_roundg (m - (k + 1))
      case measure => omega
      case rel => exact ⟨k + 1, rfl, rfl, by omega, E2.out⟩
    · have hkm' : ¬ (k : Int) < (m : Int) := by omega
      go_wp2
      go_ret
      exact ⟨rfl, EE.out⟩
end Go.Proofs.YtgijcbipnjmhgabGreat
