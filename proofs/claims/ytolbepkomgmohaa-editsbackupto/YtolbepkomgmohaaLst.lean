import Derived.Test.YtolbepkomgmohaaNm
import Derived.Test.YtolbepkomgmohaaAp
namespace Go.Proofs.Ytolbepkomgmohaa
open Go.ChangeShapes Go.WideShapes Go.ChangeAt Go.RowKit
set_option linter.unusedVariables false

theorem drop_get? {tx : List UInt8} {f : Nat} {c : UInt8} (h : tx[f]? = some c) : tx.drop f = c :: tx.drop (f + 1) := by
  obtain ⟨hf, rfl⟩ := List.getElem?_eq_some_iff.1 h
  rw [List.drop_eq_getElem_cons hf]

theorem trimL_split (tx : List UInt8) (t f : Nat) (l : List UInt8) (h : f ≤ t) : l = (tx.drop f).take ((trimL tx t f l).1 - f) ++ (trimL tx t f l).2 := by
  induction l generalizing f with
  | nil => simp [trimL]
  | cons c r ih =>
    rw [trimL]
    by_cases hc : f < t ∧ tx[f]? = some c
    · rw [if_pos hc]
      have h1 := ih (f + 1) (by omega)
      have h2 := (trimL_le tx t (f + 1) r (by omega)).1
      generalize trimL tx t (f + 1) r = p at *
      rw [drop_get? hc.2, show p.1 - f = (p.1 - (f + 1)) + 1 by omega, List.take_succ_cons, List.cons_append, ← h1]
    · rw [if_neg hc]; simp

theorem trimR_split (tx : List UInt8) (f t : Nat) (l : List UInt8) (h : f ≤ t) (ht : t ≤ tx.length) : l.reverse = (trimR tx f t l).2.reverse ++ (tx.drop (trimR tx f t l).1).take (t - (trimR tx f t l).1) := by
  induction l generalizing t with
  | nil => simp [trimR]
  | cons c r ih =>
    rw [trimR]
    by_cases hc : f < t ∧ tx[t - 1]? = some c
    · rw [if_pos hc]
      have h1 := ih (t - 1) (by omega) (by omega)
      have h2 := (trimR_le tx f (t - 1) r (by omega)).2.1
      generalize trimR tx f (t - 1) r = p at *
      have h3 : (tx.drop p.1).take (t - p.1) = (tx.drop p.1).take (t - 1 - p.1) ++ [c] := by
        rw [show t - p.1 = (t - 1 - p.1) + 1 by omega, List.take_add_one]
        congr 1
        rw [List.getElem?_drop, show p.1 + (t - 1 - p.1) = t - 1 by omega, hc.2]
        rfl
      rw [h3, List.reverse_cons, h1, List.append_assoc]
    · rw [if_neg hc]; simp

theorem trimL_stable (tx : List UInt8) (t f : Nat) (l : List UInt8) : (trimL tx t f l).2 = [] ∨ ¬ ((trimL tx t f l).1 < t ∧ tx[(trimL tx t f l).1]? = (trimL tx t f l).2.head?) := by
  induction l generalizing f with
  | nil => exact .inl rfl
  | cons c r ih =>
    rw [trimL]
    by_cases hc : f < t ∧ tx[f]? = some c
    · rw [if_pos hc]; exact ih (f + 1)
    · rw [if_neg hc]; exact .inr hc

theorem trimR_stable (tx : List UInt8) (f t : Nat) (l : List UInt8) : (trimR tx f t l).2 = [] ∨ ¬ (f < (trimR tx f t l).1 ∧ tx[(trimR tx f t l).1 - 1]? = (trimR tx f t l).2.head?) := by
  induction l generalizing t with
  | nil => exact .inl rfl
  | cons c r ih =>
    rw [trimR]
    by_cases hc : f < t ∧ tx[t - 1]? = some c
    · rw [if_pos hc]; exact ih (t - 1)
    · rw [if_neg hc]; exact .inr hc

/-- an edit that begins and ends unlike what it replaces -/
def Stb (tx : ByteArray) (e : Ed) : Prop := ∃ f t : Nat, e = ⟨f, t, e.s⟩ ∧ f ≤ t ∧ t ≤ tx.size ∧
  (f < t → e.s.data.toList ≠ [] → tx.data.toList[f]? ≠ e.s.data.toList.head? ∧ tx.data.toList[t - 1]? ≠ e.s.data.toList.reverse.head?)

theorem trimE_parts (tx : ByteArray) (f t : Nat) (s : ByteArray) (h : f ≤ t) (ht : t ≤ tx.size) : ∃ (f' t' : Nat) (s' : ByteArray), trimE tx ⟨f, t, s⟩ = ⟨f', t', s'⟩ ∧ f ≤ f' ∧ f' ≤ t' ∧ t' ≤ t ∧
    s.data.toList = (tx.data.toList.drop f).take (f' - f) ++ (s'.data.toList ++ (tx.data.toList.drop t').take (t - t')) ∧ Stb tx ⟨f', t', s'⟩ := by
  have hl := bytes_len tx
  have h1 := trimL_le tx.data.toList t f s.data.toList h
  have h2 := trimL_split tx.data.toList t f s.data.toList h
  have h3 := trimL_stable tx.data.toList t f s.data.toList
  generalize hp : trimL tx.data.toList t f s.data.toList = p at *
  have k1 := trimR_le tx.data.toList p.1 t p.2.reverse h1.2.1
  have k2 := trimR_split tx.data.toList p.1 t p.2.reverse h1.2.1 (by omega)
  have k3 := trimR_stable tx.data.toList p.1 t p.2.reverse
  generalize hq : trimR tx.data.toList p.1 t p.2.reverse = q at *
  rw [List.reverse_reverse] at k2
  refine ⟨p.1, q.1, ⟨q.2.reverse.toArray⟩, ?_, h1.1, k1.1, k1.2.1, ?_, p.1, q.1, rfl, k1.1, by omega, ?_⟩
  · unfold trimE; simp only [Int.toNat_natCast, hp, hq]
  · rw [← k2]; exact h2
  · intro hft hne
    have hne2 : q.2 ≠ [] := by intro h; apply hne; rw [h]; rfl
    constructor
    · rcases h3 with h3 | h3
      · exfalso
        rw [h3] at k2
        have := congrArg List.length k2
        simp at this
        exact hne2 (List.eq_nil_of_length_eq_zero (by omega))
      · intro he
        apply h3
        refine ⟨by omega, ?_⟩
        rw [he, k2]
        cases hr : q.2.reverse with
        | nil => exact absurd (by simpa using hr) hne2
        | cons c r => simp
    · rcases k3 with k3 | k3
      · exact absurd k3 hne2
      · intro he
        apply k3
        refine ⟨hft, ?_⟩
        rw [he]
        simp

theorem trimE_stb {tx : ByteArray} {e : Ed} (h : Stb tx e) : trimE tx e = e := by
  obtain ⟨f, t, he, hft, ht, hs⟩ := h
  have hl := bytes_len tx
  generalize e.s = s at *
  subst he
  have h1 : trimL tx.data.toList t f s.data.toList = (f, s.data.toList) := by
    cases hd : s.data.toList with
    | nil => rfl
    | cons c r =>
      rw [trimL]
      by_cases hc : f < t ∧ tx.data.toList[f]? = some c
      · exfalso
        exact (hs hc.1 (by rw [hd]; simp)).1 (by rw [hc.2, hd]; rfl)
      · rw [if_neg hc]
  have h2 : trimR tx.data.toList f t s.data.toList.reverse = (t, s.data.toList.reverse) := by
    cases hd : s.data.toList.reverse with
    | nil => rfl
    | cons c r =>
      rw [trimR]
      by_cases hc : f < t ∧ tx.data.toList[t - 1]? = some c
      · exfalso
        exact (hs hc.1 (by intro h; rw [h] at hd; simp at hd)).2 (by rw [hc.2, hd]; rfl)
      · rw [if_neg hc]
  exact trimE_of h1 h2

theorem chk_mono {size L L' : Int} {xs : List Ed} (h : chk size L xs = 0) (hL : L' ≤ L) : chk size L' xs = 0 := by
  cases xs with
  | nil => rfl
  | cons e r =>
    obtain ⟨h1, h2, h3, h4, h5⟩ := chk_cons h
    rw [chk, if_pos ⟨h1, h2, h3⟩, if_neg (by omega)]
    exact h5

theorem nrm_cons_yes {tx : ByteArray} {e : Ed} {r : List Ed} (h : keepB (trimE tx e) = true) : nrm tx (e :: r) = trimE tx e :: nrm tx r := by
  unfold nrm; rw [List.map_cons, List.filter_cons_of_pos h]
theorem nrm_cons_no {tx : ByteArray} {e : Ed} {r : List Ed} (h : keepB (trimE tx e) = false) : nrm tx (e :: r) = nrm tx r := by
  unfold nrm; rw [List.map_cons, List.filter_cons_of_neg (by rw [h]; exact Bool.false_ne_true)]

theorem nrm_chk {tx : ByteArray} {xs : List Ed} {L : Int} (h : chk tx.size L xs = 0) : chk tx.size L (nrm tx xs) = 0 := by
  induction xs generalizing L with
  | nil => rfl
  | cons e r ih =>
    obtain ⟨h1, h2, h3, h4, h5⟩ := chk_cons h
    obtain ⟨f, t, he, hft, ht⟩ := nat_ed ⟨h1, h2, h3⟩
    generalize e.s = s at *
    subst he
    obtain ⟨f', t', s', hE, g1, g2, g3, _, _⟩ := trimE_parts tx f t s hft ht
    have hr := ih h5
    simp only at h4 hr
    cases hk : keepB (trimE tx ⟨f, t, s⟩) with
    | true =>
      rw [nrm_cons_yes hk, hE, chk, if_pos ⟨by simp, by simp; omega, by simp; omega⟩, if_neg (by simp; omega)]
      exact chk_mono hr (by simp; omega)
    | false =>
      rw [nrm_cons_no hk]
      exact chk_mono hr (by omega)

theorem take_join (l : List UInt8) (a f g : Nat) (h : a ≤ f) (h2 : f ≤ g) : (l.drop a).take (f - a) ++ (l.drop f).take (g - f) = (l.drop a).take (g - a) := by
  rw [show g - a = (f - a) + (g - f) by omega, List.take_add, List.drop_drop, show a + (f - a) = f by omega]

theorem app_shift {tx : ByteArray} {ys : List Ed} {L : Int} {a t : Nat} (h : chk tx.size L ys = 0) (hL : (t : Int) ≤ L) (hat : a ≤ t) (ht : t ≤ tx.size) :
    appF tx.data.toList a ys = (tx.data.toList.drop a).take (t - a) ++ appF tx.data.toList t ys := by
  have hl := bytes_len tx
  cases ys with
  | nil =>
    rw [appF, appF]
    have := take_join tx.data.toList a t tx.size hat ht
    rw [List.take_of_length_le (l := tx.data.toList.drop t) (by rw [List.length_drop]; omega), List.take_of_length_le (l := tx.data.toList.drop a) (i := tx.size - a) (by rw [List.length_drop]; omega)] at this
    exact this.symm
  | cons e r =>
    obtain ⟨h1, h2, h3, h4, h5⟩ := chk_cons h
    rw [appF, appF, ← take_join tx.data.toList a t e.f.toNat hat (by omega), List.append_assoc]

theorem nrm_app {tx : ByteArray} {xs : List Ed} {L : Int} {a : Nat} (h : chk tx.size L xs = 0) (ha : (a : Int) ≤ L) (hat : a ≤ tx.size) : appF tx.data.toList a (nrm tx xs) = appF tx.data.toList a xs := by
  have hl := bytes_len tx
  induction xs generalizing L a with
  | nil => rfl
  | cons e r ih =>
    obtain ⟨h1, h2, h3, h4, h5⟩ := chk_cons h
    obtain ⟨f, t, he, hft, ht⟩ := nat_ed ⟨h1, h2, h3⟩
    generalize e.s = s at *
    subst he
    obtain ⟨f', t', s', hE, g1, g2, g3, g4, _⟩ := trimE_parts tx f t s hft ht
    simp only at h4 h5
    have hr := ih (a := t) h5 (by omega) ht
    have hc := nrm_chk h5
    cases hk : keepB (trimE tx ⟨f, t, s⟩) with
    | true =>
      rw [nrm_cons_yes hk, hE, appF, appF]
      simp only [Int.toNat_natCast]
      rw [app_shift (a := t') (t := t) hc (by omega) g3 ht, hr, g4, ← take_join _ a f f' (by omega) g1]
      simp [List.append_assoc]
    | false =>
      rw [nrm_cons_no hk, appF]
      simp only [Int.toNat_natCast]
      rw [app_shift (a := a) (t := t) hc (by omega) (by omega) ht, hr]
      rw [hE] at hk
      have hk2 : ¬ (f' < t' ∨ 0 < s'.size) := fun g => by rw [keepB_yes g] at hk; cases hk
      have hft' : f' = t' := by omega
      have hs0 : s'.data.toList = [] := empty_bytes (by omega)
      rw [g4, hs0, List.nil_append, hft', take_join _ f t' t (by omega) g3, ← List.append_assoc, take_join _ a f t (by omega) hft]

theorem nrm_stb {tx : ByteArray} {xs : List Ed} (h : ∀ e ∈ xs, 0 ≤ e.f ∧ e.f ≤ e.t ∧ e.t ≤ (tx.size : Int)) : ∀ e ∈ nrm tx xs, Stb tx e ∧ keepB e = true := by
  intro e he
  unfold nrm at he
  rw [List.mem_filter, List.mem_map] at he
  obtain ⟨⟨x, hx, rfl⟩, hk⟩ := he
  refine ⟨?_, hk⟩
  obtain ⟨f, t, he, hft, ht⟩ := nat_ed (h x hx)
  generalize x.s = s at *
  subst he
  obtain ⟨f', t', s', hE, _, _, _, _, hs⟩ := trimE_parts tx f t s hft ht
  rw [hE]; exact hs

theorem nrm_again {tx : ByteArray} {ys : List Ed} (h : ∀ e ∈ ys, Stb tx e ∧ keepB e = true) : nrm tx ys = ys := by
  induction ys with
  | nil => rfl
  | cons e r ih =>
    have h1 := h e (List.mem_cons_self ..)
    rw [nrm_cons_yes (by rw [trimE_stb h1.1]; exact h1.2), trimE_stb h1.1, ih fun x hx => h x (List.mem_cons_of_mem _ hx)]
end Go.Proofs.Ytolbepkomgmohaa
