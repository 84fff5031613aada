import Derived.Test.YteolfolkolpehaaDoorAp
namespace Go.Proofs.YteolfolkolpehaaDoor
open Go.ChangeShapes Go.WideShapes Go.ChangeAt Go.RowKit
set_option linter.unusedVariables false

/-- the list that takes the edits back, where the ones ahead have moved the text by m -/
def invF (tx : ByteArray) : Int → List Ed → List Ed
  | _, [] => []
  | m, e :: r => ⟨e.f + m, e.f + m + e.s.size, tx.extract e.f.toNat e.t.toNat⟩ :: invF tx (m + ((e.s.size : Int) - (e.t - e.f))) r

theorem inv_len (tx : ByteArray) (m : Int) (xs : List Ed) : (invF tx m xs).length = xs.length := by
  induction xs generalizing m with
  | nil => rfl
  | cons e r ih => rw [invF, List.length_cons, ih, List.length_cons]

theorem inv_step {tx : ByteArray} {xs p : List Ed} {k : Nat} {m : Int} {f t : Nat} {s : ByteArray} (he : xs[k]? = some ⟨f, t, s⟩) (hp : p ++ invF tx m (xs.drop k) = invF tx 0 xs) :
    (p ++ [⟨(f : Int) + m, (f : Int) + m + s.size, tx.extract f t⟩]) ++ invF tx (m + ((s.size : Int) - ((t : Int) - f))) (xs.drop (k + 1)) = invF tx 0 xs := by
  rw [← hp, drop_get he, invF]
  simp

theorem grw_take {xs : List Ed} {k : Nat} {e : Ed} (he : xs[k]? = some e) : grw (xs.take (k + 1)) = grw (xs.take k) + ((e.s.size : Int) - (e.t - e.f)) := by
  obtain ⟨hk, rfl⟩ := List.getElem?_eq_some_iff.1 he
  have happ : ∀ a b : List Ed, grw (a ++ b) = grw a + grw b := by
    intro a b
    induction a with
    | nil => simp [grw]
    | cons e r ih => rw [List.cons_append, grw, grw, ih]; omega
  rw [List.take_succ_eq_append_getElem hk, happ, grw, grw]
  omega

/-- what lies ahead of an edit is a valid list of the text up to it -/
theorem chk_take {size L : Int} {xs : List Ed} {k : Nat} {e : Ed} (h : chk size L xs = 0) (he : xs[k]? = some e) : chk e.f L (xs.take k) = 0 := by
  induction xs generalizing L k with
  | nil => simp at he
  | cons x r ih =>
    obtain ⟨h1, h2, h3, h4, h5⟩ := chk_cons h
    cases k with
    | zero => rfl
    | succ k =>
      rw [List.getElem?_cons_succ] at he
      have hle : x.t + 1 ≤ e.f := by
        have hd := drop_get he
        have : ∀ (ys : List Ed) (M : Int), chk size M ys = 0 → e ∈ ys → M ≤ e.f := by
          intro ys
          induction ys with
          | nil => intro M _ hm; cases hm
          | cons y z ihz =>
            intro M hM hm
            obtain ⟨g1, g2, g3, g4, g5⟩ := chk_cons hM
            rcases List.mem_cons.1 hm with rfl | hm
            · exact g4
            · have := ihz _ g5 hm; omega
        exact this r _ h5 (List.mem_of_getElem? he)
      rw [List.take_succ_cons, chk, if_pos ⟨h1, h2, by omega⟩, if_neg (by omega)]
      exact ih h5 he

theorem grw_bound {tx : ByteArray} {xs : List Ed} {k : Nat} {e : Ed} (h : chk tx.size 0 xs = 0) (he : xs[k]? = some e) : 0 ≤ e.f + grw (xs.take k) ∧ grw (xs.take k) ≤ tots xs ∧
    ((appF ((tx.extract 0 e.f.toNat).data.toList) 0 (xs.take k)).length : Int) = e.f + grw (xs.take k) := by
  have hK := chk_ok h e (List.mem_of_getElem? he)
  have h1 := chk_take h he
  have hsz : (tx.extract 0 e.f.toNat).size = e.f.toNat := by simp; omega
  have h2 := app_len (tx := (tx.extract 0 e.f.toNat).data.toList) (xs := xs.take k) (L := 0) (a := 0) (by rw [bytes_len, hsz, show ((e.f.toNat : Nat) : Int) = e.f by omega]; exact h1) (by omega) (by omega)
  rw [bytes_len, hsz] at h2
  have h3 := grw_le (xs.take k) (fun x hx => (chk_ok h x (List.mem_of_mem_take hx)).2.1)
  have h4 : tots (xs.take k) ≤ tots xs := by
    clear h1 h2 h3 hK h he
    induction xs generalizing k with
    | nil => simp
    | cons x r ih =>
      cases k with
      | zero => simp [tots]
      | succ k => rw [List.take_succ_cons, tots, tots]; have := ih (k := k); omega
  refine ⟨by omega, by omega, by omega⟩
end Go.Proofs.YteolfolkolpehaaDoor
