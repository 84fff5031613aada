import Derived.Test.YtmnbakalcpanlaaGreatDoorRows
import Derived.WalkKit
import Derived.ProofKit
import Derived.OpenShut
import Derived.ChangeOld
import Derived.Lib.LaidU8
namespace Go.Proofs.YtmnbakalcpanlaaGreatDoor
open Go.ChangeShapes Go.WideShapes Go.ChangeAt Go.RowKit
set_option linter.unusedVariables false

/-- a variable that is a slice of strings -/
theorem strSlice_of_reads {P : Program} {w : World} {name : String} {g : Nat} {t e : TypeId} {l : List (List UInt8)} (hn : P.globalNamed name = some g) (hy : (P.globals[g]?).map (·.type) = some t)
    (ht : P.underlying t = some (.slice e)) (he : P.underlying e = some .string) (hc : P.cellsOf e = 1) (h : Lib.VarReads P w name (.slice (l.map fun x => .lit (.string x)) [])) :
    ∃ (a : Addr) (cap : Nat), w.cell? ⟨g, 0, none⟩ = some (.slice (some a) l.length cap) ∧ ∀ i, i < l.length → w.cell? (a.add i) = some (.string ⟨(l.getD i []).toArray⟩) := by
  obtain ⟨g', t', cs, fuel, p, hg, hty, hvar, hd⟩ := h
  obtain rfl := Option.some.inj (hn.symm.trans hg)
  obtain rfl := Option.some.inj (hy.symm.trans hty)
  rcases DataW.trod_slice ht hd with ⟨_, hx⟩ | ⟨a, len, cap, el, rs, m, rfl, hcs, hx, _, hlc, _, hel, helem, hsp, _⟩
  · cases hx
  have e0 := congrArg Prod.fst hx
  simp only [DataW.slice.injEq] at e0
  obtain ⟨eE, eR⟩ := e0
  have hlen : len = l.length := by
    have := congrArg List.length eE
    simp at this
    omega
  refine ⟨a, cap, ?_, fun i hi => ?_⟩
  · have h1 := World.var?_cell hg hvar 0
    rw [h1]
    have h2 := congrArg (·[0]?) hcs
    simp only [List.getElem?_cons_zero] at h2
    rw [← hlen, ← h2]
    simp
  · have h1 := helem i (by omega)
    rw [hc] at h1
    obtain ⟨b, hb⟩ : ∃ b, el[i]? = some b := ⟨el[i]'(by omega), List.getElem?_eq_getElem (by omega)⟩
    rw [hb] at h1
    obtain ⟨ce, hce, hte⟩ := Option.bind_eq_some_iff.1 h1
    obtain ⟨z, hz, hbz, _⟩ := DataW.trod_string he hte
    have hb1 : b.1 = .lit (.string (l.getD i [])) := by
      have := congrArg (·[i]?) eE
      simp [hb, hi] at this
      have e2 : l.getD i [] = l[i] := by simp [List.getD, List.getElem?_eq_getElem hi]
      rw [e2]
      exact this.symm
    rw [hbz] at hb1
    simp only [DataW.lit.injEq, Lit.string.injEq] at hb1
    obtain ⟨_, _, hcc⟩ := World.cells?_some hce
    have := hcc 0 (by omega)
    rw [hz] at this
    simp only [Nat.mul_one] at this
    have e1 : (a.add i).add 0 = a.add i := by simp [Addr.add]
    rw [e1] at this
    rw [this, ← hb1]
    rfl

/-- a variable that is an array of strings -/
theorem strTab_of_reads {P : Program} {w : World} {name : String} {g : Nat} {t e : TypeId} {n : Nat} {l : List (List UInt8)} (hn : P.globalNamed name = some g) (hy : (P.globals[g]?).map (·.type) = some t)
    (ht : P.underlying t = some (.array n e)) (he : P.underlying e = some .string) (hc : P.cellsOf e = 1) (h : Lib.VarReads P w name (.agg (l.map fun x => .lit (.string x)))) :
    ∀ i, i < l.length → w.cell? ⟨g, i, none⟩ = some (.string ⟨(l.getD i []).toArray⟩) := by
  obtain ⟨g', t', cs, fuel, p, hg, hty, hvar, hd⟩ := h
  obtain rfl := Option.some.inj (hn.symm.trans hg)
  obtain rfl := Option.some.inj (hy.symm.trans hty)
  obtain ⟨xs, m, rfl, hx, hcl, hxl, hel⟩ := DataW.trod_array ht hd
  have e0 := congrArg Prod.fst hx
  simp only [DataW.agg.injEq] at e0
  have hlen : n = l.length := by
    have := congrArg List.length e0
    simp at this
    omega
  intro i hi
  have h1 := hel i (by omega)
  rw [hc] at h1
  obtain ⟨b, hb⟩ : ∃ b, xs[i]? = some b := ⟨xs[i]'(by omega), List.getElem?_eq_getElem (by omega)⟩
  rw [hb] at h1
  obtain ⟨z, hz, hbz, _⟩ := DataW.trod_string he h1
  have hb1 : b.1 = .lit (.string (l.getD i [])) := by
    have := congrArg (·[i]?) e0
    simp [hb, hi] at this
    have e2 : l.getD i [] = l[i] := by simp [List.getD, List.getElem?_eq_getElem hi]
    rw [e2]
    exact this.symm
  rw [hbz] at hb1
  simp only [DataW.lit.injEq, Lit.string.injEq] at hb1
  rw [World.var?_cell hg hvar i]
  have h2 := congrArg (·[0]?) hz
  simp only [Nat.mul_one, List.getElem?_take, List.getElem?_drop, List.getElem?_cons_zero] at h2
  rw [if_pos (by omega), Nat.add_zero] at h2
  rw [← Array.getElem?_toList, h2, ← hb1]
end Go.Proofs.YtmnbakalcpanlaaGreatDoor
