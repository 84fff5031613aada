import Derived.Test.YtphejjghgalkpaaGreatDoorSmT
import Derived.Test.YtphejjghgalkpaaGreatDoorRows
import Derived.SizedLaws
import Derived.JoinedCond
import Derived.Lib.SmallJoins
namespace Go.Proofs.YtphejjghgalkpaaGreatDoor
open Go.ChangeShapes Go.WideShapes Go.ChangeAt Go.RowKit Go.Deep
set_option linter.unusedVariables false
set_option maxRecDepth 100000

theorem laidOutE : laidOutB Tryz.prog = true := by kernel_rfl
theorem cellsIntE : Tryz.prog.cellsOf 3 = 1 := by kernel_rfl
theorem cellsStrE : Tryz.prog.cellsOf 9 = 1 := by kernel_rfl
theorem cellsEdE : Tryz.prog.cellsOf 24 = 3 := by kernel_rfl
/-- an edit that came in -/
theorem open_edit {H : Type} {enc : TypeId × Value → H} {w : World} {r : Reach} {b0 : Nat} {v : Value} {d : DataW H} {p : List MemPlace} (hv : Value.okWide Tryz.prog w r b0 24 v) (h : DataW.Trod enc Tryz.prog w 0 (fun _ => true) true 24 v d p) :
    ∃ (ef et : Int) (es : ByteArray), v = .agg #[.int .i64 ef, .int .i64 et, .string es] ∧ d = .agg [.lit (.int .i64 ef), .lit (.int .i64 et), .lit (.string es.data.toList)] ∧ (Lit.int .i64 ef).wf = true ∧ (Lit.int .i64 et).wf = true := by
  obtain ⟨cs, rfl, hsz⟩ := okWide_struct Tryz.underlying24 hv
  rw [cellsEdE] at hsz
  obtain ⟨l⟩ := cs
  match l, hsz with
  | [v0, v1, v2], _ =>
    obtain ⟨fuel, hf⟩ := h
    have hf : DataW.trod enc Tryz.prog w 0 (fun _ => true) true fuel 24 [v0, v1, v2] = some (d, p) := hf
    obtain ⟨y0, y1, y2, k, hxy, _, g0, g1, g2⟩ := trod_struct3 Tryz.underlying24 hf
    simp only [cellsStrE, cellsIntE] at g0 g1 g2
    obtain ⟨f, e0, rfl, w0⟩ := DataW.trod_int Tryz.underlying3 g0
    obtain ⟨t, e1, rfl, w1⟩ := DataW.trod_int Tryz.underlying3 g1
    obtain ⟨s, e2, rfl, ws⟩ := DataW.trod_string Tryz.underlying9 g2
    simp at e0 e1 e2
    subst e0 e1 e2
    cases hxy
    exact ⟨f, t, s, rfl, rfl, w0, w1⟩
theorem bulk_edit {H : Type} (ef et : Int) (es : ByteArray) : es.size ≤ Rows.uptoBulk (H := H) (.agg [.lit (.int .i64 ef), .lit (.int .i64 et), .lit (.string es.data.toList)]) := by
  have e2 : es.data.toList.length = es.size := by rw [Array.length_toList]; rfl
  simp only [Rows.uptoBulk, Rows.uptoBulkAll, e2]
  omega
end Go.Proofs.YtphejjghgalkpaaGreatDoor
