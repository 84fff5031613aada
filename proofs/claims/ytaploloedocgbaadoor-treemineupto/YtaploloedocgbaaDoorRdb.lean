import Derived.Test.YtaploloedocgbaaDoorRds
import Derived.Test.YtaploloedocgbaaDoorDw3
namespace Go.Proofs.YtaploloedocgbaaDoor
open Go.ChangeShapes Go.WideShapes Go.ChangeAt Go.RowKit
set_option linter.unusedVariables false

/-- .. and its block, whole -/
theorem strBlock_of_reads {P : Program} {w : World} {name : String} {g : Nat} {t e : TypeId} {n : Nat} {l : List (List UInt8)} (hn : P.globalNamed name = some g) (hy : (P.globals[g]?).map (·.type) = some t)
    (ht : P.underlying t = some (.array n e)) (he : P.underlying e = some .string) (hc : P.cellsOf e = 1) (hct : P.cellsOf t = l.length) (h : Lib.VarReads P w name (.agg (l.map fun x => .lit (.string x)))) :
    ∃ t0 fr, w.heap[g]? = some (.cells (nmA l) t0 fr) := by
  have hall := strTab_of_reads hn hy ht he hc h
  obtain ⟨g', t', cs, fuel, p, hg, hty, hvar, hd⟩ := h
  obtain rfl := Option.some.inj (hn.symm.trans hg)
  obtain rfl := Option.some.inj (hy.symm.trans hty)
  obtain ⟨xs, m, rfl, hx, hcl, hxl, hel⟩ := DataW.trod_array ht hd
  have e0 := congrArg Prod.fst hx
  simp only [DataW.agg.injEq] at e0
  have hlen : n = l.length := by
    have := congrArg List.length e0
    simp at this
    omega
  rw [hct] at hcl
  have hv := hvar
  unfold World.var? at hv
  rw [hg] at hv
  simp only [Option.bind_some] at hv
  obtain ⟨t0, fr, hb⟩ : ∃ t0 fr, w.heap[g]? = some (.cells cs t0 fr) := by
    cases hh : w.heap[g]? with
    | none => rw [hh] at hv; cases hv
    | some o =>
      rw [hh] at hv
      cases o with
      | cells c t0 fr =>
        simp only [Option.some.injEq] at hv
        subst hv
        exact ⟨t0, fr, rfl⟩
      | _ => cases hv
  refine ⟨t0, fr, ?_⟩
  rw [hb]
  have : cs = nmA l := by
    apply Array.ext_getElem?
    intro i
    by_cases hi : i < l.length
    · have h1 := hall i hi
      rw [World.var?_cell hg hvar i] at h1
      rw [h1, nmA_at hi]
    · rw [Array.getElem?_eq_none (show cs.size ≤ i by rw [Array.length_toList] at hcl; omega), Array.getElem?_eq_none (show (nmA l).size ≤ i by rw [nmA_size]; omega)]
  rw [this]
end Go.Proofs.YtaploloedocgbaaDoor
