/-
  DERIVED. GIVEN WITH THE SEED: THE CARDS: each row of YtphejjghgalkpaaGreatDoorRows.lean that lists a variable, with what it lists TIED to the program's text (the seventh form; the later family's looks); each row that meets fmt, with fmt's text TOLD by the authors' own Lean function (tested against real Go, not proved from fmt's source: count such statements apart). THE CARD IS WHAT COUNTS. Prove the row's statement (the work); the ties are given (YtphejjghgalkpaaGreatDoorTie.lean); close each card by the builder's one call (the guide's Derived/Test/ToyasCard.lean, 'card_holds'). Laid BY PROGRAM, IN A SANDBOX (cutbox-door.mjs). By AI agents, Wed Nov 11 2026. No macro, syntax, notation, axiom, sorry.
-/
import Derived.Test.YtphejjghgalkpaaGreatDoorRows
import GoSem.ClaimSeven
namespace Go.Proofs.YtphejjghgalkpaaGreatDoor
namespace Rows

/-- THE TIED CARD OF 'monikerlaw2.LexerRescans'. -/
def lexerRescansCard : Claim7 := { stood := { row := lexerRescansRow, standIns := [], harness := (true, "75405d1ed9a64d3248142180face0b5201ce7fdbf2fe703486f672cc4491045f"), looks := false }, kinds := [], alts := [], laidByText := true, laidKinds := [.data, .data, .data, .pinned, .pinned, .pinned], laidTests := true, laidLooks := .later }
def LexerRescansCardSaid : Prop := Claim7.holds Tryz.pinned (.plain (OpenSpec.ofChange lexerRescansSpec)) lexerRescansCard

/-- THE TIED CARD OF 'monikerlaw2.LexerKeeps'. -/
def lexerKeepsCard : Claim7 := { stood := { row := lexerKeepsRow, standIns := [], harness := (true, "75405d1ed9a64d3248142180face0b5201ce7fdbf2fe703486f672cc4491045f"), looks := false }, kinds := [], alts := [], laidByText := true, laidKinds := [.data, .data, .data, .pinned, .pinned, .pinned], laidTests := true, laidLooks := .later }
def LexerKeepsCardSaid : Prop := Claim7.holds Tryz.pinned (.plain (OpenSpec.ofChange lexerKeepsSpec)) lexerKeepsCard

/-- THE TIED CARD OF 'monikertop.TopPieces'. -/
def topPiecesCard : Claim7 := { stood := { row := topPiecesRow, standIns := [], harness := (true, "75405d1ed9a64d3248142180face0b5201ce7fdbf2fe703486f672cc4491045f"), looks := false }, kinds := [], alts := [], laidByText := true, laidKinds := [.data, .data, .data, .pinned, .pinned, .pinned], laidTests := true, laidLooks := .later }
def TopPiecesCardSaid : Prop := Claim7.holds Tryz.pinned (.plain (OpenSpec.ofChange topPiecesSpec)) topPiecesCard

/-- THE SECOND FORM's CARD OF 'monikerlaw2.LexerRescans'. -/
def lexerRescansUptoCard : Claim7 := { stood := { row := lexerRescansUptoRow, standIns := [], harness := (true, "75405d1ed9a64d3248142180face0b5201ce7fdbf2fe703486f672cc4491045f"), looks := false }, kinds := [], alts := [], laidByText := true, laidKinds := [.data, .data, .data, .pinned, .pinned, .pinned], laidTests := true, laidLooks := .later }
def LexerRescansUptoCardSaid : Prop := Claim7.holds Tryz.pinned (.plain (OpenSpec.upto lexerRescansSpec)) lexerRescansUptoCard

/-- THE SECOND FORM's CARD OF 'monikerlaw2.LexerKeeps'. -/
def lexerKeepsUptoCard : Claim7 := { stood := { row := lexerKeepsUptoRow, standIns := [], harness := (true, "75405d1ed9a64d3248142180face0b5201ce7fdbf2fe703486f672cc4491045f"), looks := false }, kinds := [], alts := [], laidByText := true, laidKinds := [.data, .data, .data, .pinned, .pinned, .pinned], laidTests := true, laidLooks := .later }
def LexerKeepsUptoCardSaid : Prop := Claim7.holds Tryz.pinned (.plain (OpenSpec.upto lexerKeepsSpec)) lexerKeepsUptoCard

/-- THE SECOND FORM's CARD OF 'monikertop.TopPieces'. -/
def topPiecesUptoCard : Claim7 := { stood := { row := topPiecesUptoRow, standIns := [], harness := (true, "75405d1ed9a64d3248142180face0b5201ce7fdbf2fe703486f672cc4491045f"), looks := false }, kinds := [], alts := [], laidByText := true, laidKinds := [.data, .data, .data, .pinned, .pinned, .pinned], laidTests := true, laidLooks := .later }
def TopPiecesUptoCardSaid : Prop := Claim7.holds Tryz.pinned (.plain (OpenSpec.upto topPiecesSpec)) topPiecesUptoCard
end Rows
end Go.Proofs.YtphejjghgalkpaaGreatDoor
