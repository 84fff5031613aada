import Derived.Test.YteanhljabjoabaaAt1
namespace Go.Proofs.Yteanhljabjoabaa
open Go.ChangeShapes Go.WideShapes Go.ChangeAt Go.RowKit
set_option linter.unusedVariables false

theorem dwn_mem {k : Nat} {x : Int} (h : x ∈ dwn k) : ∃ i : Nat, i < k ∧ x = (i : Int) := by
  induction k with
  | zero => simp [dwn] at h
  | succ k ih =>
    simp only [dwn, List.mem_cons] at h
    rcases h with rfl | h
    · exact ⟨k, by omega, rfl⟩
    · obtain ⟨i, hi, rfl⟩ := ih h
      exact ⟨i, by omega, rfl⟩

def atQ (ts : List Tk) (ns : List Nd) (off : Int) (i : Int) : Bool := match ns[i.toNat]? with | some x => atB ts off x | none => false
theorem atQ_head (ts : List Tk) (ns : List Nd) (off : Int) (k : Nat) : ((dwn k).filter (atQ ts ns off)).headD (-1) = atF ts ns off k := by
  induction k with
  | zero => rfl
  | succ k ih =>
    have e : atQ ts ns off (k : Int) = match ns[k]? with | some x => atB ts off x | none => false := by simp [atQ]
    rw [dwn, List.filter_cons, e, atF]
    cases hx : ns[k]? with
    | none => simp only [Bool.false_eq_true, if_false]; exact ih
    | some x =>
      cases hb : atB ts off x with
      | false => dsimp only; rw [if_neg (by simp [hb]), if_neg (by simp [hb])]; exact ih
      | true => dsimp only; rw [if_pos hb, if_pos hb]; rfl

theorem down_any (k : Int) (w : World) : Calls Try.prog 25 #[.int .i64 k] w fun e w' => e = .returned (.func (.func 47) #[] #[.pointer (some ⟨w.heap.size, 0, none⟩)]) ∧ w' = w.alloc (.cells #[.int .i64 k] 3) := by
  go_enter Try.func25, Try.ntmps25
  go_wp2
  go_ret
  exact ⟨rfl, rfl⟩
theorem asked_any (f q : Value) (g1 g2 : Nat) (l1 l2 : Array Value) (h1 : f = .func (.func g1) #[] l1) (h2 : q = .func (.func g2) #[] l2) (w : World) : Calls Try.prog 24 #[f, q] w fun e w' => e = .returned (.func (.func 46) #[] #[.pointer (some ⟨w.heap.size, 0, none⟩), .pointer (some ⟨w.heap.size + 1, 0, none⟩)]) ∧ w' = (w.alloc (.cells #[f] 46)).alloc (.cells #[q] 49) := by
  subst h1 h2
  go_enter Try.func24, Try.ntmps24
  go_wp2
  go_ret
  exact ⟨by simp, rfl⟩

/-- the first of the numbers below k of which a question is answered by yes -/
theorem first_down (k gq n0 bd b1 b2 : Nat) (lq : Array Value) (q : Int → Bool) (w : World) (hk : k < 9223372036854775808)
    (eq : ∀ args w, (callFunc gq args).run Try.prog w = .ok (.enter gq args) w) (hn0 : n0 ≤ w.heap.size) (h0 : bd < n0) (h1 : b1 < n0) (h2 : b2 < n0)
    (c0 : w.cell? ⟨bd, 0, none⟩ = some (.int .i64 k)) (c1 : w.cell? ⟨b1, 0, none⟩ = some (.func (.func 47) #[] #[.pointer (some ⟨bd, 0, none⟩)])) (c2 : w.cell? ⟨b2, 0, none⟩ = some (.func (.func gq) #[] lq))
    (hq : ∀ i : Nat, i < k → ∀ W, Below n0 w W → n0 ≤ W.heap.size → Calls Try.prog gq (#[.int .i64 (i : Int)] ++ lq) W fun e W' => e = .returned (.bool (q i)) ∧ Below W.heap.size W W') :
    Calls Try.prog 23 #[.func (.func 46) #[] #[.pointer (some ⟨b1, 0, none⟩), .pointer (some ⟨b2, 0, none⟩)]] w fun e W' => e = .returned (.int .i64 (((dwn k).filter q).headD (-1))) ∧ Below w.heap.size w W' := by
  have hfn : ∀ j, Fence.wide.fn j := fun _ => trivial
  refine (callsIn_wide (n := 9)).1 (first_in Fence.wide 9 hfn rfl rfl (by omega) n0 46 _ _ w (enters_of Try.func46 (by kernel_rfl) rfl) hn0 ?_)
  refine asked1_seq Fence.wide 8 hfn rfl rfl (by omega) b1 b2 n0 47 gq _ lq _ q w (enters_of Try.func47 (by kernel_rfl) rfl) eq h1 h2 c1 c2 ?_ ?_
  · exact down1_seq Fence.wide 7 hfn rfl (by omega) bd n0 k w hk h0 c0
  · intro x hx m W hW hs
    obtain ⟨i, hi, rfl⟩ := dwn_mem hx
    exact callsIn_wide.2 (hq i hi W hW hs)
end Go.Proofs.Yteanhljabjoabaa
