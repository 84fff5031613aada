import Derived.Test.YtaploloedocgbaaDoorRo
import Derived.Shelf.Abstract
import Derived.Shelf.RegionOpen
import Derived.OwnWalkIn
import Derived.TacticsInMore
import Derived.LoopNIn
import Derived.LoopIn
namespace Go.Proofs.YtaploloedocgbaaDoor
open Go Go.RowKit Go.Shelf
attribute [local go_sem] Oper.semAt_some
set_option linter.unusedVariables false

/-- the numbers below k, the greatest first -/
def dwn : Nat → List Int
  | 0 => []
  | k + 1 => (k : Int) :: dwn k

theorem down1_seq {b : Bool} (F : Fence) (n : Nat) (hfn : ∀ k, F.fn k) (hro : F.round = none) (hn : 1 ≤ n) (B n0 k : Nat) (w : World) (hk : k < 9223372036854775808) (hB : B < n0) (hc : w.cell? ⟨B, 0, none⟩ = some (.int .i64 k)) :
    SeqO b F n Tryd.prog 58 #[.pointer (some ⟨B, 0, none⟩)] n0 (dwn k) w := by
  refine seqO_of (fun l J Jx W hW hnW oJ oX hY h0 => ?_)
  have hc' : W.cell? ⟨B, 0, none⟩ = some (.int .i64 k) := (hW.cell (p := ⟨B, 0, none⟩) hB).trans hc
  refine callsIn_of_wp Tryd.func58 rfl (hfn _) ?_ hro
  simp only [Tryd.ntmps58, List.size_toArray, List.length_cons, List.length_nil, Nat.reduceAdd, Nat.reduceSub, Array.replicate_succ, Array.replicate_zero, List.push_toArray, List.append_toArray, List.nil_append, List.cons_append]
  gi_wp2
  gi_loopw [3] (fun p wr => ∃ (m : Nat) (pre : List Int), p = .int .i64 ((m : Int) - 1) ∧ m ≤ k ∧ dwn k = pre ++ dwn m ∧ J pre wr) (fun p wr => (intOf p + 1).toNat)
  case atStart => exact ⟨k, [], rfl, Nat.le_refl _, rfl, h0⟩
  case round =>
    obtain ⟨m, pre, rfl, hm, hx, hJ⟩ := hrel
    cases m with
    | zero =>
      gi_wp2
      go_end0
      exact ⟨⟨_, rfl⟩, .inl (by rw [hx]; simpa [dwn] using hJ)⟩
    | succ m =>
      obtain ⟨fn, tmps, assign, body, hy, hR⟩ := hY pre m (dwn m) wr hx hJ
      have e1 : (((m + 1 : Nat) : Int) - 1) = (m : Int) := by omega
      rw [e1]
      gi_wp2
      refine hR.mono ?_
      rintro e W3 (⟨rfl, hJ3, hk3⟩ | ⟨rfl, hJx3⟩)
      · gi_wp2
        go_roundw
        case rel => exact ⟨m, pre ++ [(m : Int)], rfl, by omega, by rw [hx]; simp [dwn], hJ3⟩
        case measure => simp [intOf]
      · gi_wp2
        refine bodyPost_ret (results_none rfl _ _ _) rfl ?_
        exact ⟨⟨_, rfl⟩, .inr ⟨pre ++ [(m : Int)], ⟨dwn m, by rw [hx]; simp [dwn]⟩, hJx3⟩⟩
end Go.Proofs.YtaploloedocgbaaDoor
