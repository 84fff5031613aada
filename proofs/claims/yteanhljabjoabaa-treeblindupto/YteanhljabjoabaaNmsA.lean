import Derived.Test.YteanhljabjoabaaKd1
namespace Go.Proofs.Yteanhljabjoabaa
open Go.ChangeShapes Go.WideShapes Go.ChangeAt Go.RowKit
set_option linter.unusedVariables false

/-- a piece's word -/
def wrd (s : ByteArray) (p : Tk) : ByteArray := if 0 ≤ p.f ∧ p.f ≤ p.t ∧ p.t ≤ (s.size : Int) then s.extract p.f.toNat p.t.toNat else ⟨#[]⟩

theorem wrd_yes {s : ByteArray} {k : Int} {f t : Nat} (h1 : f ≤ t) (h2 : t ≤ s.size) : wrd s ⟨k, f, t⟩ = s.extract f t := by
  unfold wrd; rw [if_pos ⟨by simp, by simp; omega, by simp; omega⟩]; simp
theorem wrd_no {s : ByteArray} {p : Tk} (h : ¬ (0 ≤ p.f ∧ p.f ≤ p.t ∧ p.t ≤ (s.size : Int))) : wrd s p = ⟨#[]⟩ := by
  unfold wrd; rw [if_neg h]
theorem ret_s {a b : ByteArray} (h : a = b) : Ending.returned (.string a) = .returned (.string b) := by rw [h]

set_option maxHeartbeats 400000 in
theorem word_any (s : ByteArray) (p : Tk) (w : World) (hs : s.size ≤ 140737488351232) (hp : TkFit p) :
    Calls Try.prog 41 #[.string s, .agg #[.int .u8 p.k, .int .i64 p.f, .int .i64 p.t]] w fun e w' => e = .returned (.string (wrd s p)) ∧ Below w.heap.size w w' := by
  obtain ⟨k, f, t⟩ := p
  have hw : Below w.heap.size w (w.alloc (.cells #[.int .u8 k, .int .i64 f, .int .i64 t] 35)) := (Below.refl _ w).alloc (Nat.le_refl _) _
  by_cases h0 : f < 0
  · have HR : Hid (wrd s ⟨k, f, t⟩ = ⟨#[]⟩) := wrd_no (by simp only; omega)
    go_enter Try.func41, Try.ntmps41
    go_wp2
    go_ret
    exact ⟨ret_s HR.out.symm, hw⟩
  · by_cases h1 : t < f
    · have HR : Hid (wrd s ⟨k, f, t⟩ = ⟨#[]⟩) := wrd_no (by simp only; omega)
      go_enter Try.func41, Try.ntmps41
      go_wp2
      go_ret
      exact ⟨ret_s HR.out.symm, hw⟩
    · by_cases h2 : (s.size : Int) < t
      · have HR : Hid (wrd s ⟨k, f, t⟩ = ⟨#[]⟩) := wrd_no (by simp only; omega)
        go_enter Try.func41, Try.ntmps41
        go_wp2
        go_ret
        exact ⟨ret_s HR.out.symm, hw⟩
      · obtain ⟨a, rfl⟩ : ∃ k : Nat, f = k := ⟨f.toNat, by omega⟩
        obtain ⟨b, rfl⟩ : ∃ k : Nat, t = k := ⟨t.toNat, by omega⟩
        have HR : Hid (wrd s ⟨k, a, b⟩ = s.extract a b) := wrd_yes (by omega) (by omega)
        clear hp
        go_enter Try.func41, Try.ntmps41
        go_wp2
        go_ret
        exact ⟨ret_s HR.out.symm, hw⟩
end Go.Proofs.Yteanhljabjoabaa
