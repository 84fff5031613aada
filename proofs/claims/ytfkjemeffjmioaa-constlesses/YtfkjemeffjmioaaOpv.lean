import Derived.Test.YtfkjemeffjmioaaLs
namespace Go.Proofs.Ytfkjemeffjmioaa
open Go.ChangeShapes Go.WideShapes Go.ChangeAt Go.RowKit Go.Deep
set_option linter.unusedVariables false

theorem open_val {H : Type} {enc : TypeId × Value → H} {w : World} {r : Reach} {b0 : Nat} {v : Value} {d : DataW H} {p : List MemPlace} (hv : Value.okWide Try.prog w r b0 26 v) (h : DataW.Trod enc Try.prog w 0 (fun _ => true) true 26 v d p) :
    ∃ x : Vl, v = x.v ∧ d = .agg [.lit (.int .u8 x.k), .lit (.bool x.b), .lit (.int .i64 x.i), .lit (.string x.s.data.toList)] ∧ 0 ≤ x.k ∧ x.k ≤ 255 ∧ -9223372036854775808 ≤ x.i ∧ x.i ≤ 9223372036854775807 := by
  obtain ⟨v0, v1, v2, v3, y0, y1, y2, y3, n, rfl, rfl, _, g0, g1, g2, g3⟩ := Joins.open_agg4 Try.underlying26 (by kernel_rfl) (by kernel_rfl) hv h
  obtain ⟨k, e0, rfl, w0⟩ := DataW.trod_int Try.underlying24 g0
  obtain ⟨b, e1, rfl⟩ := DataW.trod_bool Try.underlying4 g1
  obtain ⟨i, e2, rfl, w2⟩ := DataW.trod_int Try.underlying2 g2
  obtain ⟨s, e3, rfl, w3⟩ := DataW.trod_string Try.underlying9 g3
  simp at e0 e1 e2 e3
  subst e0 e1 e2 e3
  exact ⟨⟨k, b, i, s⟩, rfl, rfl, (bounds_u8 w0).1, (bounds_u8 w0).2, (bounds_i64 w2).1, (bounds_i64 w2).2⟩

theorem val_size {H : Type} {x : Vl} {ts : List TypeId} {ds : List (DataW H)} (hsz : (DataW.weightsEach Try.prog ts ds).all (· ≤ reachBytes) = true) {j : Nat} (ht : ts[j]? = some 26)
    (hd : ds[j]? = some (.agg [.lit (.int .u8 x.k), .lit (.bool x.b), .lit (.int .i64 x.i), .lit (.string x.s.data.toList)])) : x.s.size ≤ 140737488351232 := by
  have key : ∀ n ∈ DataW.weights (H := H) Try.prog 26 (.agg [.lit (.int .u8 x.k), .lit (.bool x.b), .lit (.int .i64 x.i), .lit (.string x.s.data.toList)]), n ≤ 140737488351232 := fun n hn => of_decide_eq_true (List.all_eq_true.1 hsz _ (DataW.weights_mem_each ht hd n hn))
  rw [DataW.weights, Try.underlying26] at key
  simp only [DataW.weightsEach, List.map_cons, List.map_nil, List.mem_append, DataW.weights] at key
  have := key x.s.data.toList.length (by simp)
  have e2 : x.s.data.toList.length = x.s.size := by rw [Array.length_toList]; rfl
  omega
end Go.Proofs.Ytfkjemeffjmioaa
