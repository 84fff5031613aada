import Derived.Test.YtijcfgeafgddkaaDoorDwa
namespace Go.Proofs.YtijcfgeafgddkaaDoor
set_option linter.unusedVariables false

/-- a node's Size written over, in the row -/
theorem flat_set_z : ∀ (ns : List Nd) (i : Nat) (x : Nd) (v : Int), ns[i]? = some x → (flat ns).set (i * 4 + 3) (.int .i64 v) = flat (ns.set i ⟨x.k, x.f, x.e, v⟩)
  | [], i, x, v, h => by simp at h
  | y :: r, 0, x, v, h => by
    have : y = x := by simpa using h
    subst this
    rw [List.set_cons_zero, flat_cons, flat_cons]
    rfl
  | y :: r, i + 1, x, v, h => by
    have ih := flat_set_z r i x v (by simpa using h)
    rw [List.set_cons_succ, flat_cons, flat_cons, ← ih, show (i + 1) * 4 + 3 = (Rw.cs y).length + (i * 4 + 3) by rw [Rw.len]; show _ = 4 + _; omega, List.set_append_right _ _ (by omega), Nat.add_sub_cancel_left]

/-- the brackets that close at i: the place behind them, the nodes with their sizes, what is still open (the innermost first) -/
def cls (s : List UInt8) : List Nat → Nat → List Nd → Nat × List Nd × List Nat
  | [], i, l => (i, l, [])
  | t :: r, i, l => if s[i]? = some 41 then cls s r (i + 1) (l.set t ⟨(l.getD t ⟨0, 0, 0, 0⟩).k, (l.getD t ⟨0, 0, 0, 0⟩).f, (l.getD t ⟨0, 0, 0, 0⟩).e, (l.length : Int) - t⟩) else (i, l, t :: r)
theorem cls_ge (s : List UInt8) : ∀ (op : List Nat) (i : Nat) (l : List Nd), i ≤ (cls s op i l).1
  | [], i, l => Nat.le_refl _
  | t :: r, i, l => by
    rw [cls]
    split
    · exact Nat.le_of_succ_le (cls_ge s r (i + 1) _)
    · exact Nat.le_refl _
/-- what both Draws answer from i on: the nodes, the error, the place -/
def dr (nm : List (List UInt8)) (s : List UInt8) : Nat → Nat → List Nd → List Nat → List Nd × Int × Nat
  | 0, _, _, _ => ([], 40, 0)
  | m + 1, i, l, op =>
    if (naF nm (s.drop i) 58).2.2 then
      (if s[i + (naF nm (s.drop i) 58).2.1]? = some 40 then dr nm s m (i + (naF nm (s.drop i) 58).2.1 + 1) (l ++ [⟨((naF nm (s.drop i) 58).1 : Int), 0, 0, 1⟩]) (l.length :: op)
      else
        (if (cls s op (i + (naF nm (s.drop i) 58).2.1) (l ++ [⟨((naF nm (s.drop i) 58).1 : Int), 0, 0, 1⟩])).2.2 = [] then
          (if (cls s op (i + (naF nm (s.drop i) 58).2.1) (l ++ [⟨((naF nm (s.drop i) 58).1 : Int), 0, 0, 1⟩])).1 < s.length then ([], 40, (cls s op (i + (naF nm (s.drop i) 58).2.1) (l ++ [⟨((naF nm (s.drop i) 58).1 : Int), 0, 0, 1⟩])).1)
          else ((cls s op (i + (naF nm (s.drop i) 58).2.1) (l ++ [⟨((naF nm (s.drop i) 58).1 : Int), 0, 0, 1⟩])).2.1, 0, 0))
        else if s[(cls s op (i + (naF nm (s.drop i) 58).2.1) (l ++ [⟨((naF nm (s.drop i) 58).1 : Int), 0, 0, 1⟩])).1]? = some 32 then
          dr nm s m ((cls s op (i + (naF nm (s.drop i) 58).2.1) (l ++ [⟨((naF nm (s.drop i) 58).1 : Int), 0, 0, 1⟩])).1 + 1) (cls s op (i + (naF nm (s.drop i) 58).2.1) (l ++ [⟨((naF nm (s.drop i) 58).1 : Int), 0, 0, 1⟩])).2.1 (cls s op (i + (naF nm (s.drop i) 58).2.1) (l ++ [⟨((naF nm (s.drop i) 58).1 : Int), 0, 0, 1⟩])).2.2
        else ([], 40, (cls s op (i + (naF nm (s.drop i) 58).2.1) (l ++ [⟨((naF nm (s.drop i) 58).1 : Int), 0, 0, 1⟩])).1)))
    else ([], 40, i + (naF nm (s.drop i) 58).2.1)
end Go.Proofs.YtijcfgeafgddkaaDoor
