import Derived.Test.YteolfolkolpehaaDoorW6
namespace Go.Proofs.YteolfolkolpehaaDoor
open Go.ChangeShapes Go.WideShapes Go.ChangeAt Go.RowKit
set_option linter.unusedVariables false

theorem chk_ok {size least : Int} {xs : List Ed} (h : chk size least xs = 0) : ∀ e ∈ xs, 0 ≤ e.f ∧ e.f ≤ e.t ∧ e.t ≤ size := by
  induction xs generalizing least with
  | nil => simp
  | cons e r ih =>
    rw [chk] at h
    by_cases h1 : 0 ≤ e.f ∧ e.f ≤ e.t ∧ e.t ≤ size
    · rw [if_pos h1] at h
      by_cases h2 : e.f < least
      · rw [if_pos h2] at h; omega
      · rw [if_neg h2] at h
        intro x hx
        rcases List.mem_cons.1 hx with rfl | hx
        · exact h1
        · exact ih h x hx
    · rw [if_neg h1] at h; omega

theorem vld_chk {size : Int} {xs : List Ed} (h : vld size xs = 0) : chk size 0 xs = 0 ∧ xs.length ≤ 65536 := by
  unfold vld at h
  by_cases hl : 65536 < xs.length
  · rw [if_pos hl] at h; omega
  · rw [if_neg hl] at h; exact ⟨h, by omega⟩

/-- by how much the edits up to a place move it, as whole numbers; none: it lies within one -/
def shS (at_ : Int) : Int → List Ed → Option Int
  | m, [] => some m
  | m, e :: r => if e.f < at_ ∧ at_ < e.t then none else shS at_ (if e.t ≤ at_ then m + ((e.s.size : Int) - (e.t - e.f)) else m) r

def shN (xs : List Ed) (at_ : Int) : Int := if 0 ≤ at_ ∧ at_ ≤ 4611686018427387904 ∧ vld 4611686018427387904 xs = 0 then (match shS at_ 0 xs with | some m => wrap64 (at_ + m) | none => 0) else 0
def shB (xs : List Ed) (at_ : Int) : Bool := if 0 ≤ at_ ∧ at_ ≤ 4611686018427387904 ∧ vld 4611686018427387904 xs = 0 then (shS at_ 0 xs).isSome else false

theorem sh_no {xs : List Ed} {at_ : Int} (h : ¬ (0 ≤ at_ ∧ at_ ≤ 4611686018427387904 ∧ vld 4611686018427387904 xs = 0)) : shN xs at_ = 0 ∧ shB xs at_ = false := by
  unfold shN shB; rw [if_neg h, if_neg h]; exact ⟨rfl, rfl⟩

theorem sh_none {xs : List Ed} {at_ m : Int} {k : Nat} {e : Ed} (h : 0 ≤ at_ ∧ at_ ≤ 4611686018427387904 ∧ vld 4611686018427387904 xs = 0) (hc : shS at_ 0 xs = shS at_ m (xs.drop k)) (he : xs[k]? = some e) (hin : e.f < at_ ∧ at_ < e.t) : shN xs at_ = 0 ∧ shB xs at_ = false := by
  unfold shN shB; rw [if_pos h, if_pos h, hc, drop_get he, shS, if_pos hin]; exact ⟨rfl, rfl⟩

theorem sh_step {xs : List Ed} {at_ m : Int} {k : Nat} {e : Ed} (hc : shS at_ 0 xs = shS at_ m (xs.drop k)) (he : xs[k]? = some e) (hin : ¬ (e.f < at_ ∧ at_ < e.t)) :
    shS at_ 0 xs = shS at_ (if e.t ≤ at_ then m + ((e.s.size : Int) - (e.t - e.f)) else m) (xs.drop (k + 1)) := by
  rw [hc, drop_get he, shS, if_neg hin]

theorem sh_end {xs : List Ed} {at_ m : Int} {k : Nat} (h : 0 ≤ at_ ∧ at_ ≤ 4611686018427387904 ∧ vld 4611686018427387904 xs = 0) (hc : shS at_ 0 xs = shS at_ m (xs.drop k)) (hk : ¬ k < xs.length) : shN xs at_ = wrap64 (at_ + m) ∧ shB xs at_ = true := by
  unfold shN shB; rw [if_pos h, if_pos h, hc, List.drop_eq_nil_of_le (by omega), shS]; exact ⟨rfl, rfl⟩

theorem wrap64_zero : wrap64 0 = 0 := by unfold wrap64; omega
theorem wrap64_left (a b : Int) : wrap64 (wrap64 a + b) = wrap64 (a + b) := by unfold wrap64; omega
theorem wrap64_right (a b : Int) : wrap64 (a + wrap64 b) = wrap64 (a + b) := by unfold wrap64; omega

theorem ret_ib {a b : Int} {c d : Bool} (h : a = b ∧ c = d) : Ending.returned (.tuple #[.int .i64 a, .bool c]) = .returned (.tuple #[.int .i64 b, .bool d]) := by rw [h.1, h.2]

end Go.Proofs.YteolfolkolpehaaDoor
