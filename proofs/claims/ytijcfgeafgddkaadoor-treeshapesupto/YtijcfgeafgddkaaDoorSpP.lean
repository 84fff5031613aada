import Derived.Test.YtijcfgeafgddkaaDoorSpA
namespace Go.Proofs.YtijcfgeafgddkaaDoor
open Go.ChangeShapes Go.WideShapes Go.ChangeAt Go.RowKit
set_option linter.unusedVariables false

/-- is the i-th piece a token? -/
def tkAt (ts : List Tk) (i : Nat) : Bool := match ts[i]? with | some p => tokB p | none => false
/-- the tokens among n pieces from b on -/
def tkl (ts : List Tk) (b n : Nat) : List Int := ((List.range' b n).filter (tkAt ts)).map Int.ofNat

theorem tkl_yes {ts : List Tk} {b n : Nat} {p : Tk} (hp : ts[b + n]? = some p) (h : tokB p = true) : tkl ts b (n + 1) = tkl ts b n ++ [((b + n : Nat) : Int)] := by
  have ht : tkAt ts (b + n) = true := by unfold tkAt; rw [hp]; exact h
  unfold tkl; rw [List.range'_1_concat, List.filter_append, List.filter_cons_of_pos ht]; simp
theorem tkl_no {ts : List Tk} {b n : Nat} {p : Tk} (hp : ts[b + n]? = some p) (h : tokB p = false) : tkl ts b (n + 1) = tkl ts b n := by
  have ht : tkAt ts (b + n) = false := by unfold tkAt; rw [hp]; exact h
  unfold tkl; rw [List.range'_1_concat, List.filter_append, List.filter_cons_of_neg (by simp [ht])]; simp
theorem tkl_len (ts : List Tk) (b n : Nat) : (tkl ts b n).length ≤ n := by
  unfold tkl; rw [List.length_map]; exact Nat.le_trans (List.length_filter_le _ _) (by simp)

end Go.Proofs.YtijcfgeafgddkaaDoor
