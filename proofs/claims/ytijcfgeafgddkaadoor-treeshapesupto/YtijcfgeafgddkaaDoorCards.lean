/-
  DERIVED. GIVEN WITH THE SEED: THE CARDS: each row of YtijcfgeafgddkaaDoorRows.lean that lists a variable, with what it lists TIED to the program's text (the seventh form; the later family's looks); each row that meets fmt, with fmt's text TOLD by the authors' own Lean function (tested against real Go, not proved from fmt's source: count such statements apart). THE CARD IS WHAT COUNTS. Prove the row's statement (the work); the ties are given (YtijcfgeafgddkaaDoorTie.lean); close each card by the builder's one call (the guide's Derived/Test/ToyasCard.lean, 'card_holds'). Laid BY PROGRAM, IN A SANDBOX (cutbox-door.mjs). By AI agents, Wed Nov 11 2026. No macro, syntax, notation, axiom, sorry.
-/
import Derived.Test.YtijcfgeafgddkaaDoorRows
import GoSem.ClaimSeven
namespace Go.Proofs.YtijcfgeafgddkaaDoor
namespace Rows

/-- THE TIED CARD OF 'monikerlaw4.TreeShapes'. -/
def treeShapesCard : Claim7 := { stood := { row := treeShapesRow, standIns := [], harness := (true, "d39684c5301a63814f1d2296b46f4f5acf5d6265bf0829cceb66a49b3c3ea836"), looks := false }, kinds := [], alts := [], laidByText := true, laidKinds := [.data], laidTests := true, laidLooks := .later }
def TreeShapesCardSaid : Prop := Claim7.holds Tryd.pinned (.plain (OpenSpec.ofChange treeShapesSpec)) treeShapesCard

/-- THE SECOND FORM's CARD OF 'monikerlaw4.TreeShapes'. -/
def treeShapesUptoCard : Claim7 := { stood := { row := treeShapesUptoRow, standIns := [], harness := (true, "d39684c5301a63814f1d2296b46f4f5acf5d6265bf0829cceb66a49b3c3ea836"), looks := false }, kinds := [], alts := [], laidByText := true, laidKinds := [.data], laidTests := true, laidLooks := .later }
def TreeShapesUptoCardSaid : Prop := Claim7.holds Tryd.pinned (.plain (OpenSpec.upto treeShapesSpec)) treeShapesUptoCard
end Rows
end Go.Proofs.YtijcfgeafgddkaaDoor
