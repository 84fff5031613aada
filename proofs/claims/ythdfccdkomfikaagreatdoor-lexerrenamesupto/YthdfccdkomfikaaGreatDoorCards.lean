/-
  DERIVED. GIVEN WITH THE SEED: THE CARDS: each row of YthdfccdkomfikaaGreatDoorRows.lean that lists a variable, with what it lists TIED to the program's text (the seventh form; the later family's looks); each row that meets fmt, with fmt's text TOLD by the authors' own Lean function (tested against real Go, not proved from fmt's source: count such statements apart). THE CARD IS WHAT COUNTS. Prove the row's statement (the work); the ties are given (YthdfccdkomfikaaGreatDoorTie.lean); close each card by the builder's one call (the guide's Derived/Test/ToyasCard.lean, 'card_holds'). Laid BY PROGRAM, IN A SANDBOX (cutbox-door.mjs). By AI agents, Wed Nov 11 2026. No macro, syntax, notation, axiom, sorry.
-/
import Derived.Test.YthdfccdkomfikaaGreatDoorRows
import GoSem.ClaimSeven
namespace Go.Proofs.YthdfccdkomfikaaGreatDoor
namespace Rows

/-- THE TIED CARD OF 'monikerlaw2.LexerRenames'. -/
def lexerRenamesCard : Claim7 := { stood := { row := lexerRenamesRow, standIns := [], harness := (true, "2e2dd0e7eb51c8d7c61204bdafe99de1b985f4e4c2745ef04f4c60a4f460c75c"), looks := false }, kinds := [], alts := [], laidByText := true, laidKinds := [.data, .data, .data, .pinned, .pinned, .pinned], laidTests := true, laidLooks := .later }
def LexerRenamesCardSaid : Prop := Claim7.holds Tryz.pinned (.plain (OpenSpec.ofChange lexerRenamesSpec)) lexerRenamesCard

/-- THE TIED CARD OF 'monikerlaw2.LexerScans'. -/
def lexerScansCard : Claim7 := { stood := { row := lexerScansRow, standIns := [], harness := (true, "2e2dd0e7eb51c8d7c61204bdafe99de1b985f4e4c2745ef04f4c60a4f460c75c"), looks := false }, kinds := [], alts := [], laidByText := true, laidKinds := [.data, .data, .data, .pinned, .pinned, .pinned], laidTests := true, laidLooks := .later }
def LexerScansCardSaid : Prop := Claim7.holds Tryz.pinned (.plain (OpenSpec.ofChange lexerScansSpec)) lexerScansCard

/-- THE TIED CARD OF 'monikerlaw2.LexerKinds'. -/
def lexerKindsCard : Claim7 := { stood := { row := lexerKindsRow, standIns := [], harness := (true, "2e2dd0e7eb51c8d7c61204bdafe99de1b985f4e4c2745ef04f4c60a4f460c75c"), looks := false }, kinds := [], alts := [], laidByText := true, laidKinds := [.data, .data, .data, .pinned, .pinned, .pinned], laidTests := true, laidLooks := .later }
def LexerKindsCardSaid : Prop := Claim7.holds Tryz.pinned (.plain (OpenSpec.ofChange lexerKindsSpec)) lexerKindsCard

/-- THE SECOND FORM's CARD OF 'monikerlaw2.LexerRenames'. -/
def lexerRenamesUptoCard : Claim7 := { stood := { row := lexerRenamesUptoRow, standIns := [], harness := (true, "2e2dd0e7eb51c8d7c61204bdafe99de1b985f4e4c2745ef04f4c60a4f460c75c"), looks := false }, kinds := [], alts := [], laidByText := true, laidKinds := [.data, .data, .data, .pinned, .pinned, .pinned], laidTests := true, laidLooks := .later }
def LexerRenamesUptoCardSaid : Prop := Claim7.holds Tryz.pinned (.plain (OpenSpec.upto lexerRenamesSpec)) lexerRenamesUptoCard

/-- THE SECOND FORM's CARD OF 'monikerlaw2.LexerScans'. -/
def lexerScansUptoCard : Claim7 := { stood := { row := lexerScansUptoRow, standIns := [], harness := (true, "2e2dd0e7eb51c8d7c61204bdafe99de1b985f4e4c2745ef04f4c60a4f460c75c"), looks := false }, kinds := [], alts := [], laidByText := true, laidKinds := [.data, .data, .data, .pinned, .pinned, .pinned], laidTests := true, laidLooks := .later }
def LexerScansUptoCardSaid : Prop := Claim7.holds Tryz.pinned (.plain (OpenSpec.upto lexerScansSpec)) lexerScansUptoCard

/-- THE SECOND FORM's CARD OF 'monikerlaw2.LexerKinds'. -/
def lexerKindsUptoCard : Claim7 := { stood := { row := lexerKindsUptoRow, standIns := [], harness := (true, "2e2dd0e7eb51c8d7c61204bdafe99de1b985f4e4c2745ef04f4c60a4f460c75c"), looks := false }, kinds := [], alts := [], laidByText := true, laidKinds := [.data, .data, .data, .pinned, .pinned, .pinned], laidTests := true, laidLooks := .later }
def LexerKindsUptoCardSaid : Prop := Claim7.holds Tryz.pinned (.plain (OpenSpec.upto lexerKindsSpec)) lexerKindsUptoCard
end Rows
end Go.Proofs.YthdfccdkomfikaaGreatDoor
