import Derived.Test.YtgijcbipnjmhgabTg0
import Derived.Test.YtgijcbipnjmhgabTg2
import Derived.Test.YtgijcbipnjmhgabGc5
import Derived.Test.YtgijcbipnjmhgabSmI
import Derived.Deep.RegionHeld3
import Derived.BigQuiet
import Derived.Test.YtgijcbipnjmhgabFa4
import Derived.Test.YtgijcbipnjmhgabFa3
namespace Go.Proofs.Ytgijcbipnjmhgab
open Go.ChangeShapes Go.WideShapes Go.ChangeAt Go.RowKit
set_option linter.unusedVariables false
set_option linter.unusedSimpArgs false

theorem tvd_drop {ps : List Pr} {k : Nat} {p : Pr} (h : ps[k]? = some p) : tvd (ps.drop k) = tvd (ps.drop (k + 1)) ++ [swapP p] := by
  obtain ⟨h1, e1⟩ := List.getElem?_eq_some_iff.1 h
  unfold tvd
  rw [List.drop_eq_getElem_cons h1, e1, List.map_cons, List.reverse_cons]
theorem tvd_len (ps : List Pr) : (tvd ps).length = ps.length := by unfold tvd; rw [List.length_reverse, List.length_map]
theorem things_tvd {n : Int} {ps : List Pr} (h : things n ps = true) : things n (tvd ps) = true := by
  unfold things tvd at *
  simp only [Bool.and_eq_true, List.all_eq_true] at h ⊢
  refine ⟨h.1, fun p hp => ?_⟩
  rw [List.mem_reverse, List.mem_map] at hp
  obtain ⟨q, hq, rfl⟩ := hp
  have := h.2 q hq
  unfold thp swapP at *
  simp only [Bool.and_eq_true] at this ⊢
  exact ⟨this.2, this.1⟩
theorem things_app {n a b : Int} {ps : List Pr} (h : things n ps = true) (ha : 0 ≤ a ∧ a < n) (hb : 0 ≤ b ∧ b < n) : things n (ps ++ [⟨a, b⟩]) = true := by
  unfold things at *
  simp only [Bool.and_eq_true, List.all_append] at h ⊢
  refine ⟨h.1, h.2, ?_⟩
  simp [thp, thg]
  omega
/-- a row of numbers that is read, below C -/
def Rd1 (C : Nat) (w : World) (a : Option Addr) (ls : List Int) : Prop := 0 < ls.length → ∃ g, a = some ⟨g, 0, none⟩ ∧ g < C ∧ ∀ (j : Nat) y, ls[j]? = some y → w.cell? ⟨g, j, none⟩ = some (.int .i64 y)
theorem Rd1.of {C B c : Nat} {w : World} {a : Option Addr} {ls : List Int} (h : w.ownsRow B 3 1 (.slice a ls.length c) ls.length (flat ls)) (hC : w.heap.size ≤ C) : Rd1 C w a ls := fun h0 => by
  obtain ⟨a', c', hv, ha, -⟩ := own_slice h
  injection hv with e1 e2 e3
  subst e1
  obtain ⟨g, rfl⟩ := ha h0
  exact ⟨g, rfl, Nat.lt_of_lt_of_le (h.lt g rfl).2 hC, fun j y hj => (row_cell h hj).1⟩
theorem Rd1.below {C : Nat} {w w' : World} {a : Option Addr} {ls : List Int} (h : Rd1 C w a ls) (hb : Below C w w') : Rd1 C w' a ls := fun h0 => by
  obtain ⟨g, e, hg, hc⟩ := h h0
  exact ⟨g, e, hg, fun j y hj => (hb.cell (p := ⟨g, j, none⟩) hg).trans (hc j y hj)⟩
theorem Rd1.up {C C' : Nat} {w : World} {a : Option Addr} {ls : List Int} (h : Rd1 C w a ls) (hb : C ≤ C') : Rd1 C' w a ls := fun h0 => by
  obtain ⟨g, e, hg, hc⟩ := h h0
  exact ⟨g, e, Nat.lt_of_lt_of_le hg hb, hc⟩
theorem Rd1.lies {C : Nat} {w : World} {a : Option Addr} {ls : List Int} (h : Rd1 C w a ls) (hC : C ≤ w.heap.size) : LiesA w a ls := by
  by_cases h0 : ls = []
  · exact .inl h0
  · obtain ⟨g, rfl, hg, hc⟩ := h (List.length_pos_iff.2 h0)
    refine .inr ⟨g, 0, rfl, Nat.lt_of_lt_of_le hg hC, fun j u hj => ?_⟩
    rw [flat_ints, List.getElem?_map] at hj
    obtain ⟨y, hy, rfl⟩ := Option.map_eq_some_iff.1 hj
    rw [Nat.zero_add]
    exact hc j y hy
theorem own_liesI' {w : World} {B : Nat} {a : Option Addr} {c : Nat} {L : List Int} (h : w.ownsRow B 3 1 (.slice a L.length c) L.length (ivs L)) : LiesA w a L :=
  (Rd1.of (B := B) (c := c) (by rw [flat_ints]; exact h) (Nat.le_refl _)).lies (Nat.le_refl _)
end Go.Proofs.Ytgijcbipnjmhgab

namespace Go.Proofs.Ytgijcbipnjmhgab
open Go.ChangeShapes Go.WideShapes Go.ChangeAt Go.RowKit
set_option linter.unusedVariables false
set_option linter.unusedSimpArgs false

/-- where each thing of a list stands, as far as it was read -/
structure Pk (l : List Int) (n k : Nat) (ats : List Int) : Prop where
  len : ats.length = n
  old : ∀ (i : Nat) (x : Int), i < k → l[i]? = some x → ats[x.toNat]? = some (i : Int)
  non : ∀ y : Nat, y < n → (y : Int) ∉ l.take k → ats[y]? = some (-1)
theorem Pk.start (l : List Int) (n : Nat) : Pk l n 0 (List.replicate n (-1)) := ⟨by simp, fun i x h => by omega, fun y hy _ => by rw [List.getElem?_replicate, if_pos hy]⟩
theorem Pk.step {l : List Int} {n k x : Nat} {ats : List Int} (h : Pk l n k ats) (hl : l.Nodup) (hx : l[k]? = some (x : Int)) (hxn : x < n) : ats[x]? = some (-1) ∧ Pk l n (k + 1) (ats.set x (k : Int)) := by
  have hno : (x : Int) ∉ l.take k := fun hm => by
    obtain ⟨i, hi⟩ := List.getElem?_of_mem hm
    have hik : i < k := by
      have := (List.getElem?_eq_some_iff.1 hi).1
      rw [List.length_take] at this
      omega
    rw [List.getElem?_take, if_pos hik] at hi
    have := at_uniq hl hi hx
    omega
  refine ⟨h.non x hxn hno, by rw [List.length_set]; exact h.len, fun i y hi hy => ?_, fun y hy hm => ?_⟩
  · rw [List.getElem?_set]
    by_cases e : i = k
    · subst e
      rw [hx] at hy
      injection hy with hy
      subst hy
      rw [if_pos (by omega), if_pos (by rw [h.len]; exact hxn)]
    · have hyx : y ≠ (x : Int) := fun e2 => by subst e2; exact e (at_uniq hl hy hx)
      have h1 := h.old i y (by omega) hy
      by_cases e3 : x = y.toNat
      · -- y < 0 cannot be told apart by its number alone
        subst e3
        rw [h.non _ hxn hno] at h1
        injection h1 with h1
        omega
      · rw [if_neg e3]; exact h1
  · rw [List.getElem?_set]
    by_cases e : x = y
    · subst e
      exact absurd (by obtain ⟨l1, e1⟩ := List.getElem?_eq_some_iff.1 hx; rw [List.take_succ_eq_append_getElem l1, e1]; simp) hm
    · rw [if_neg e]
      exact h.non y hy (fun h2 => hm (by rw [List.take_add_one]; exact List.mem_append_left _ h2))
end Go.Proofs.Ytgijcbipnjmhgab

namespace Go.Proofs.Ytgijcbipnjmhgab
open Go.ChangeShapes Go.WideShapes Go.ChangeAt Go.RowKit
set_option linter.unusedVariables false
set_option linter.unusedSimpArgs false

/-- what Order answers: a line of all, or a cycle -/
def OrE (B n : Nat) (ps : List Pr) (w : World) (v u : Value) (E : Int) : Prop :=
  (E = 0 ∧ u = .slice none 0 0 ∧ ∃ N os, LstR n ps N ∧ Ln N n os ∧ os.length = n ∧ w.ownsRow B 3 1 v os.length (flat os)) ∨
  (E = 73 ∧ v = .slice none 0 0 ∧ ∃ (f : Nat) (l : List Int), w.ownsRow B 3 1 u ((f : Int) :: l).length (flat ((f : Int) :: l)) ∧ Fst ps f ∧ Cyc ps f f l)
theorem order_any (n cap : Nat) (a : Option Addr) (ps : List Pr) (w : World) (hL : LiesA w a ps) (hm : ps.length ≤ 8796093022208) (ht : things (n : Int) ps = true) :
    Calls Try.prog 7 #[.int .i64 (n : Int), .slice a ps.length cap] w fun e w' => ∃ v u E, e = .returned (.tuple #[v, u, .int .i64 E]) ∧ Below w.heap.size w w' ∧ OrE w.heap.size n ps w' v u E := by
  by_cases hex : ∃ x, OnC ps x
  · exact (order_cyc n cap a ps w hL hm ht hex).mono fun e w' ⟨v, h1, h2, f, l, h3, h4, h5⟩ => ⟨_, v, 73, h1, h2, .inr ⟨rfl, rfl, f, l, h3, h4, h5⟩⟩
  · exact (order_yes n cap a ps w hL hm ht (fun x hx => hex ⟨x, hx⟩)).mono fun e w' ⟨v, h1, h2, N, os, h3, h4, h5, h6⟩ => ⟨v, _, 0, h1, h2, .inl ⟨rfl, rfl, N, os, h3, h4, h5, h6⟩⟩
/-- each part is one thing -/
def sgl (pss : List (List Int)) : Bool := pss.all fun p => decide (p.length = 1)
theorem sgl_take {pss : List (List Int)} {i : Nat} {p : List Int} (h : pss[i]? = some p) : sgl (pss.take (i + 1)) = (sgl (pss.take i) && decide (p.length = 1)) := by
  obtain ⟨h1, e1⟩ := List.getElem?_eq_some_iff.1 h
  unfold sgl
  rw [List.take_succ_eq_append_getElem h1, e1, List.all_append]
  simp
/-- no thing needs itself -/
def nsl (ps : List Pr) : Bool := ps.all fun p => decide (p.a ≠ p.b)
theorem nsl_take {ps : List Pr} {i : Nat} {p : Pr} (h : ps[i]? = some p) : nsl (ps.take (i + 1)) = (nsl (ps.take i) && decide (p.a ≠ p.b)) := by
  obtain ⟨h1, e1⟩ := List.getElem?_eq_some_iff.1 h
  unfold nsl
  rw [List.take_succ_eq_append_getElem h1, e1, List.all_append]
  simp
theorem sn_yes {pss : List (List Int)} {ps : List Pr} (h : (sgl pss && nsl ps) = true) : (∀ p ∈ pss, p.length = 1) ∧ ∀ x, ¬ Eg ps x x := by
  simp only [Bool.and_eq_true, sgl, nsl, List.all_eq_true, decide_eq_true_eq] at h
  exact ⟨h.1, fun x he => h.2 _ he rfl⟩
theorem sn_no {pss : List (List Int)} {ps : List Pr} {n : Nat} (hr : ∀ p ∈ ps, (0 ≤ p.a ∧ p.a < (n : Int)) ∧ (0 ≤ p.b ∧ p.b < (n : Int))) (h : (sgl pss && nsl ps) = false) : ¬ ((∀ p ∈ pss, p.length = 1) ∧ ∀ x, ¬ Eg ps x x) := fun ⟨h1, h2⟩ => by
  have : (sgl pss && nsl ps) = true := by
    simp only [Bool.and_eq_true, sgl, nsl, List.all_eq_true, decide_eq_true_eq]
    refine ⟨h1, fun p hp e => ?_⟩
    have hrp := hr p hp
    obtain ⟨a, b⟩ := p
    simp only at e hrp
    subst e
    refine h2 a.toNat ?_
    show (⟨((a.toNat : Nat) : Int), ((a.toNat : Nat) : Int)⟩ : Pr) ∈ ps
    rw [show ((a.toNat : Nat) : Int) = a by omega]
    exact hp
  rw [h] at this
  cases this
theorem Prt.nocyc {ps : List Pr} {n : Nat} {pss : List (List Int)} (hP : Prt ps n pss) (hr : ∀ p ∈ ps, (0 ≤ p.a ∧ p.a < (n : Int)) ∧ (0 ≤ p.b ∧ p.b < (n : Int))) (hs : ∀ p ∈ pss, p.length = 1) (hno : ∀ x, ¬ Eg ps x x) (x : Nat) : ¬ OnC ps x := fun ⟨z, he, hz⟩ => by
  have hrp := hr _ he
  simp only at hrp
  obtain ⟨i, p, hp, hxp⟩ := hP.all x (by omega)
  have hzp := (hP.sam i p x z hp hxp).2 ⟨by omega, .step he (.refl _), hz⟩
  have h1 := hs p (List.mem_of_getElem? hp)
  obtain ⟨u, rfl⟩ := List.length_eq_one_iff.1 h1
  rw [List.mem_singleton] at hxp hzp
  have : x = z := by omega
  subst this
  exact hno x he
/-- two rows of the call's own: the parts' numbers, all things -/
structure Wl (B PB n : Nat) (w : World) (V : Value) (fs al : List Int) : Prop where
  pr : w.ownsRow B 3 1 (.slice (some ⟨PB, 0, none⟩) n n) n (flat fs)
  al : w.ownsRow B 3 1 V al.length (flat al)
  ap : V.ownBlock ≠ some PB
theorem Wl.below {B PB n : Nat} {w w' : World} {V : Value} {fs al : List Int} (h : Wl B PB n w V fs al) (hb : Below w.heap.size w w') : Wl B PB n w' V fs al :=
  ⟨own_belowR h.pr hb (Nat.le_refl _), own_belowR h.al hb (Nat.le_refl _), h.ap⟩
theorem Wl.set {B PB n : Nat} {w : World} {V : Value} {fs al : List Int} (h : Wl B PB n w V fs al) (y : Nat) (v : Int) : Wl B PB n (w.setCell ⟨PB, y, none⟩ (.int .i64 v)) V (fs.set y v) al := by
  refine ⟨?_, ownsRow_setCell_other h.al (a := ⟨PB, y, none⟩) h.ap _, h.ap⟩
  have h1 := (World.ownsRow.stored h.pr y (.int .i64 v)).1
  rw [flat_setI] at h1
  exact h1
theorem Wl.push {B PB n m : Nat} {w w' : World} {V V' : Value} {fs al p : List Int} (h : Wl B PB n w V fs al) (hm : p.length = m) (ho : w'.ownsRow B 3 1 V' (al.length + m) (flat al ++ flat p)) (hg : w.grownBy w' V.ownBlock) (hn : V'.ownBlock = V.ownBlock ∨ ∃ g, V'.ownBlock = some g ∧ w.heap.size ≤ g) : Wl B PB n w' V' fs (al ++ p) := by
  have hB := (h.pr.lt PB rfl).2
  refine ⟨own_same h.pr (fun g e => ?_), ?_, ?_⟩
  · cases e
    exact hg.block PB hB (fun e2 => h.ap e2.symm)
  · rw [List.length_append, flat_append, hm]
    exact ho
  · rcases hn with e | ⟨g, e, hg2⟩
    · rw [e]; exact h.ap
    · rw [e]; intro e2; injection e2; omega
end Go.Proofs.Ytgijcbipnjmhgab
