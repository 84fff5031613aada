/-
  DERIVED. GIVEN WITH THE SEED: THE CARDS: each row of YtnifjeopmfhhhaaDoorRows.lean that lists a variable, with what it lists TIED to the program's text (the seventh form; the later family's looks); each row that meets fmt, with fmt's text TOLD by the authors' own Lean function (tested against real Go, not proved from fmt's source: count such statements apart). THE CARD IS WHAT COUNTS. Prove the row's statement (the work); the ties are given (YtnifjeopmfhhhaaDoorTie.lean); close each card by the builder's one call (the guide's Derived/Test/ToyasCard.lean, 'card_holds'). Laid BY PROGRAM, IN A SANDBOX (cutbox-door.mjs). By AI agents, Wed Nov 11 2026. No macro, syntax, notation, axiom, sorry.
-/
import Derived.Test.YtnifjeopmfhhhaaDoorRows
import GoSem.ClaimSeven
namespace Go.Proofs.YtnifjeopmfhhhaaDoor
namespace Rows

/-- THE TIED CARD OF 'monikerlaw4.TreeDraws'. -/
def treeDrawsCard : Claim7 := { stood := { row := treeDrawsRow, standIns := [], harness := (true, "e41689e6a073cf91a1c2f3f9ee289a6b95c822989b7c3213e5aa0b107848da0c"), looks := false }, kinds := [], alts := [], laidByText := true, laidKinds := [.data, .data], laidTests := true, laidLooks := .later }
def TreeDrawsCardSaid : Prop := Claim7.holds Tryd.pinned (.plain (OpenSpec.ofChange treeDrawsSpec)) treeDrawsCard

/-- THE SECOND FORM's CARD OF 'monikerlaw4.TreeDraws'. -/
def treeDrawsUptoCard : Claim7 := { stood := { row := treeDrawsUptoRow, standIns := [], harness := (true, "e41689e6a073cf91a1c2f3f9ee289a6b95c822989b7c3213e5aa0b107848da0c"), looks := false }, kinds := [], alts := [], laidByText := true, laidKinds := [.data, .data], laidTests := true, laidLooks := .later }
def TreeDrawsUptoCardSaid : Prop := Claim7.holds Tryd.pinned (.plain (OpenSpec.upto treeDrawsSpec)) treeDrawsUptoCard
end Rows
end Go.Proofs.YtnifjeopmfhhhaaDoor
