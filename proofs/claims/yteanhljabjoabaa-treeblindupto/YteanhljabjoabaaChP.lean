import Derived.Test.YteanhljabjoabaaWk2
import Derived.Test.YteanhljabjoabaaKd2
import Derived.Test.YteanhljabjoabaaCls
import Derived.Laws.BitsLemmas
import Derived.Deep.RegionHeld3
import Derived.Deep.AppendLies
import Derived.Deep.DrawnRows
import Derived.Deep.DeepCutAuto
namespace Go.Proofs.Yteanhljabjoabaa
open Go.ChangeShapes Go.WideShapes Go.ChangeAt Go.RowKit
set_option linter.unusedVariables false

theorem wr_u64 (n : Int) (h0 : 0 ≤ n) (h1 : n < 2 ^ 64) : IntKind.u64.wrap n = n := by
  simp [IntKind.wrap, IntKind.bits, IntKind.signed]; omega
/-- the bit of a number -/
def chV (u : Int) (k : Nat) : Int := bits .and .u64 (u / 2 ^ min (IntKind.u64.wrap (bits .and .i64 (k : Int) 63)).toNat 64) 1
theorem chV_mod (u : Int) (k : Nat) (h0 : 0 ≤ u) (h1 : u < 18446744073709551616) : chV u k = (u / 2 ^ min (IntKind.u64.wrap (bits .and .i64 (k : Int) 63)).toNat 64) % 2 := by
  have hp : (0 : Int) < 2 ^ min (IntKind.u64.wrap (bits .and .i64 (k : Int) 63)).toNat 64 := Int.pow_pos (by decide)
  have a0 : 0 ≤ u / 2 ^ min (IntKind.u64.wrap (bits .and .i64 (k : Int) 63)).toNat 64 := Int.ediv_nonneg h0 (by omega)
  have a1 : u / 2 ^ min (IntKind.u64.wrap (bits .and .i64 (k : Int) 63)).toNat 64 ≤ u := Int.ediv_le_self _ h0
  exact bits_mask .u64 64 (by decide) wr_u64 1 (by decide) _ a0 (by omega)
def chB (u : Int) (k : Nat) : Bool := chV u k == 1
theorem chB_no {u : Int} {k : Nat} (h0 : 0 ≤ u) (h1 : u < 18446744073709551616) (h : chB u k = false) : chV u k = 0 := by
  have := chV_mod u k h0 h1
  have hne : chV u k ≠ 1 := by intro e; rw [chB, e] at h; cases h
  omega
theorem chB_yes {u : Int} {k : Nat} (h : chB u k = true) : chV u k = 1 := by unfold chB at h; simpa using h
theorem chB_zero : chB 0 = fun _ => false := by
  funext k
  have := chV_mod 0 k (by decide) (by decide)
  rw [Int.zero_ediv] at this
  unfold chB
  rw [this]; rfl

theorem chosen_any (u : Int) (w : World) : Calls Try.prog 17 #[.int .u64 u] w fun e w' => e = .returned (.func (.func 38) #[] #[.pointer (some ⟨w.heap.size, 0, none⟩)]) ∧ w' = w.alloc (.cells #[.int .u64 u] 43) := by
  go_enter Try.func17, Try.ntmps17
  go_wp2
  go_ret
  exact ⟨rfl, rfl⟩
theorem chosen1_any (u : Int) (k : Nat) (b : Nat) (w : World) (hc : w.cell? ⟨b, 0, none⟩ = some (.int .u64 u)) (hk : k < 9223372036854775808) (h0 : 0 ≤ u) (h1 : u < 18446744073709551616) : Calls Try.prog 38 #[.int .i64 (k : Int), .pointer (some ⟨b, 0, none⟩)] w fun e w' => e = .returned (.bool (chB u k)) ∧ w' = w := by
  go_enter Try.func38, Try.ntmps38
  go_wp2
  go_ret
  exact ⟨rfl, rfl⟩
end Go.Proofs.Yteanhljabjoabaa
