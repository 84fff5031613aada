/-
  DERIVED. GIVEN WITH THE SEED: THE CARDS: each row of YtcanabbjliloeaaDoorRows.lean that lists a variable, with what it lists TIED to the program's text (the seventh form; the later family's looks); each row that meets fmt, with fmt's text TOLD by the authors' own Lean function (tested against real Go, not proved from fmt's source: count such statements apart). THE CARD IS WHAT COUNTS. Prove the row's statement (the work); the ties are given (YtcanabbjliloeaaDoorTie.lean); close each card by the builder's one call (the guide's Derived/Test/ToyasCard.lean, 'card_holds'). Laid BY PROGRAM, IN A SANDBOX (cutbox-door.mjs). By AI agents, Wed Nov 11 2026. No macro, syntax, notation, axiom, sorry.
-/
import Derived.Test.YtcanabbjliloeaaDoorRows
import GoSem.ClaimSeven
namespace Go.Proofs.YtcanabbjliloeaaDoor
namespace Rows

/-- THE TIED CARD OF 'monikerlaw4.TreeSketches'. -/
def treeSketchesCard : Claim7 := { stood := { row := treeSketchesRow, standIns := [], harness := (true, "7afcdee87a1444b4bba9201d72f2aea895a42afaa54b60b0631ae5d317adae52"), looks := false }, kinds := [], alts := [], laidByText := true, laidKinds := [.data, .data], laidTests := true, laidLooks := .later }
def TreeSketchesCardSaid : Prop := Claim7.holds Tryd.pinned (.plain (OpenSpec.ofChange treeSketchesSpec)) treeSketchesCard

/-- THE SECOND FORM's CARD OF 'monikerlaw4.TreeSketches'. -/
def treeSketchesUptoCard : Claim7 := { stood := { row := treeSketchesUptoRow, standIns := [], harness := (true, "7afcdee87a1444b4bba9201d72f2aea895a42afaa54b60b0631ae5d317adae52"), looks := false }, kinds := [], alts := [], laidByText := true, laidKinds := [.data, .data], laidTests := true, laidLooks := .later }
def TreeSketchesUptoCardSaid : Prop := Claim7.holds Tryd.pinned (.plain (OpenSpec.upto treeSketchesSpec)) treeSketchesUptoCard
end Rows
end Go.Proofs.YtcanabbjliloeaaDoor
