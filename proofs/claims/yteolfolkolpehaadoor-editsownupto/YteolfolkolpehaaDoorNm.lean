import Derived.Test.YteolfolkolpehaaDoorTrim
import Derived.Test.YteolfolkolpehaaDoorW4
namespace Go.Proofs.YteolfolkolpehaaDoor
open Go.ChangeShapes Go.WideShapes Go.ChangeAt Go.RowKit
set_option linter.unusedVariables false

def keepB (e : Ed) : Bool := decide (e.f < e.t) || !(e.s.size == 0)
def nrm (tx : ByteArray) (xs : List Ed) : List Ed := (xs.map (trimE tx)).filter keepB

theorem nrm_snoc_yes {tx : ByteArray} {xs : List Ed} {k : Nat} {e : Ed} (he : xs[k]? = some e) (h : keepB (trimE tx e) = true) : nrm tx (xs.take (k + 1)) = nrm tx (xs.take k) ++ [trimE tx e] := by
  obtain ⟨hk, rfl⟩ := List.getElem?_eq_some_iff.1 he
  have e1 : [xs[k]].map (trimE tx) = [trimE tx xs[k]] := rfl
  have e2 : [trimE tx xs[k]].filter keepB = [trimE tx xs[k]] := by rw [List.filter_cons_of_pos h]; rfl
  unfold nrm
  rw [List.take_succ_eq_append_getElem hk, List.map_append, List.filter_append, e1, e2]

theorem nrm_snoc_no {tx : ByteArray} {xs : List Ed} {k : Nat} {e : Ed} (he : xs[k]? = some e) (h : keepB (trimE tx e) = false) : nrm tx (xs.take (k + 1)) = nrm tx (xs.take k) := by
  obtain ⟨hk, rfl⟩ := List.getElem?_eq_some_iff.1 he
  have e1 : [xs[k]].map (trimE tx) = [trimE tx xs[k]] := rfl
  have e2 : [trimE tx xs[k]].filter keepB = [] := by rw [List.filter_cons_of_neg (by rw [h]; exact Bool.false_ne_true)]; rfl
  unfold nrm
  rw [List.take_succ_eq_append_getElem hk, List.map_append, List.filter_append, e1, e2, List.append_nil]

theorem nrm_len (tx : ByteArray) (xs : List Ed) (k : Nat) : (nrm tx (xs.take k)).length ≤ k := by
  unfold nrm
  refine Nat.le_trans (List.length_filter_le _ _) ?_
  rw [List.length_map]
  exact List.length_take_le _ _

theorem trimE_fit (tx : ByteArray) (f t : Nat) (s : ByteArray) (h : f ≤ t) : ∃ f' t' : Nat, trimE tx ⟨f, t, s⟩ = ⟨f', t', (trimE tx ⟨f, t, s⟩).s⟩ ∧ f ≤ f' ∧ f' ≤ t' ∧ t' ≤ t ∧ (trimE tx ⟨f, t, s⟩).s.size ≤ s.size := by
  have h1 := trimL_le tx.data.toList t f s.data.toList h
  have h2 := trimR_le tx.data.toList (trimL tx.data.toList t f s.data.toList).1 t (trimL tx.data.toList t f s.data.toList).2.reverse h1.2.1
  refine ⟨_, _, by unfold trimE; simp only [Int.toNat_natCast], h1.1, h2.1, h2.2.1, ?_⟩
  have e1 : (trimE tx ⟨f, t, s⟩).s.size = (trimR tx.data.toList (trimL tx.data.toList t f s.data.toList).1 t (trimL tx.data.toList t f s.data.toList).2.reverse).2.length := by
    rw [← bytes_len]; unfold trimE; simp only [Int.toNat_natCast, List.length_reverse]
  have h3 := h1.2.2
  have h4 := h2.2.2
  rw [List.length_reverse] at h4
  rw [bytes_len] at h3
  omega

/-- an edit of a valid list, by whole numbers that are not below zero -/
theorem nat_ed {size : Nat} {e : Ed} (h : 0 ≤ e.f ∧ e.f ≤ e.t ∧ e.t ≤ (size : Int)) : ∃ f t : Nat, e = ⟨f, t, e.s⟩ ∧ f ≤ t ∧ t ≤ size := by
  obtain ⟨f, hf⟩ := Int.eq_ofNat_of_zero_le h.1
  obtain ⟨t, ht⟩ := Int.eq_ofNat_of_zero_le (Int.le_trans h.1 h.2.1)
  refine ⟨f, t, ?_, by omega, by omega⟩
  cases e
  simp only at hf ht
  rw [hf, ht]

theorem keepB_yes {f t : Nat} {s : ByteArray} (h : f < t ∨ 0 < s.size) : keepB ⟨f, t, s⟩ = true := by
  unfold keepB
  rcases h with h | h
  · have : (f : Int) < (t : Int) := by omega
    simp [this]
  · have : ¬ s.size = 0 := by omega
    simp [this]

theorem keepB_no {f t : Nat} {s : ByteArray} (h : ¬ (f < t ∨ 0 < s.size)) : keepB ⟨f, t, s⟩ = false := by
  unfold keepB
  have h1 : ¬ (f : Int) < (t : Int) := by omega
  have h2 : s.size = 0 := by omega
  simp [h1, h2]

theorem own_set3 {w : World} {base e n g : Nat} {v : Value} {xs : List Value} (h : w.ownsRow base e 3 v n xs) (hg : ∀ k, v.ownBlock = some k → k ≠ g) (x y z : Value) :
    (((w.setCell ⟨g, 0, none⟩ x).setCell ⟨g, 1, none⟩ y).setCell ⟨g, 2, none⟩ z).ownsRow base e 3 v n xs := by
  have hne : v.ownBlock ≠ some g := fun h => hg g h rfl
  exact ownsRow_setCell_other (ownsRow_setCell_other (ownsRow_setCell_other h (a := ⟨g, 0, none⟩) hne x) (a := ⟨g, 1, none⟩) hne y) (a := ⟨g, 2, none⟩) hne z

theorem Box.set3 {w : World} {g : Nat} {f t : Int} {s : ByteArray} (h : Box w g f t s) (f' t' : Int) (s' : ByteArray) : Box (((w.setCell ⟨g, 0, none⟩ (.int .i64 f')).setCell ⟨g, 1, none⟩ (.int .i64 t')).setCell ⟨g, 2, none⟩ (.string s')) g f' t' s' := ((h.set0 f').set1 t').set2 s'

theorem Box.other {w : World} {g : Nat} {f t : Int} {s : ByteArray} (h : Box w g f t s) (a : Addr) (hne : g ≠ a.block) (v : Value) : Box (w.setCell a v) g f t s := (heap_setCell_other w a g v hne).trans h

end Go.Proofs.YteolfolkolpehaaDoor
