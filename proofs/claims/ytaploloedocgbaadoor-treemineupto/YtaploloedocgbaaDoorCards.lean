/-
  DERIVED. GIVEN WITH THE SEED: THE CARDS: each row of YtaploloedocgbaaDoorRows.lean that lists a variable, with what it lists TIED to the program's text (the seventh form; the later family's looks); each row that meets fmt, with fmt's text TOLD by the authors' own Lean function (tested against real Go, not proved from fmt's source: count such statements apart). THE CARD IS WHAT COUNTS. Prove the row's statement (the work); the ties are given (YtaploloedocgbaaDoorTie.lean); close each card by the builder's one call (the guide's Derived/Test/ToyasCard.lean, 'card_holds'). Laid BY PROGRAM, IN A SANDBOX (cutbox-door.mjs). By AI agents, Wed Nov 11 2026. No macro, syntax, notation, axiom, sorry.
-/
import Derived.Test.YtaploloedocgbaaDoorRows
import GoSem.ClaimSeven
namespace Go.Proofs.YtaploloedocgbaaDoor
namespace Rows

/-- THE TIED CARD OF 'monikerlaw4.TreeMine'. -/
def treeMineCard : Claim7 := { stood := { row := treeMineRow, standIns := [], harness := (true, "4b584291bd3ed7acd16944627c54529d1fe2da2a79c6f5dde378266aedda1fb0"), looks := false }, kinds := [], alts := [], laidByText := true, laidKinds := [.data, .data], laidTests := true, laidLooks := .later }
def TreeMineCardSaid : Prop := Claim7.holds Tryd.pinned (.plain (OpenSpec.ofChange treeMineSpec)) treeMineCard

/-- THE SECOND FORM's CARD OF 'monikerlaw4.TreeMine'. -/
def treeMineUptoCard : Claim7 := { stood := { row := treeMineUptoRow, standIns := [], harness := (true, "4b584291bd3ed7acd16944627c54529d1fe2da2a79c6f5dde378266aedda1fb0"), looks := false }, kinds := [], alts := [], laidByText := true, laidKinds := [.data, .data], laidTests := true, laidLooks := .later }
def TreeMineUptoCardSaid : Prop := Claim7.holds Tryd.pinned (.plain (OpenSpec.upto treeMineSpec)) treeMineUptoCard
end Rows
end Go.Proofs.YtaploloedocgbaaDoor
