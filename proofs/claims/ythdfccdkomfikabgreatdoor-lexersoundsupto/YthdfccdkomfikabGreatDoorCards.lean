/-
  DERIVED. GIVEN WITH THE SEED: THE CARDS: each row of YthdfccdkomfikabGreatDoorRows.lean that lists a variable, with what it lists TIED to the program's text (the seventh form; the later family's looks); each row that meets fmt, with fmt's text TOLD by the authors' own Lean function (tested against real Go, not proved from fmt's source: count such statements apart). THE CARD IS WHAT COUNTS. Prove the row's statement (the work); the ties are given (YthdfccdkomfikabGreatDoorTie.lean); close each card by the builder's one call (the guide's Derived/Test/ToyasCard.lean, 'card_holds'). Laid BY PROGRAM, IN A SANDBOX (cutbox-door.mjs). By AI agents, Wed Nov 11 2026. No macro, syntax, notation, axiom, sorry.
-/
import Derived.Test.YthdfccdkomfikabGreatDoorRows
import GoSem.ClaimSeven
namespace Go.Proofs.YthdfccdkomfikabGreatDoor
namespace Rows

/-- THE TIED CARD OF 'monikerlaw2.LexerValues'. -/
def lexerValuesCard : Claim7 := { stood := { row := lexerValuesRow, standIns := [], harness := (true, "1602ce047cbe89cf8d70bd2ab6df644f9824480251398b23eed6a3e6bd3f84bf"), looks := false }, kinds := [], alts := [], laidByText := true, laidKinds := [.data, .data, .data, .pinned, .pinned, .pinned], laidTests := true, laidLooks := .later }
def LexerValuesCardSaid : Prop := Claim7.holds Tryz.pinned (.plain (OpenSpec.ofChange lexerValuesSpec)) lexerValuesCard

/-- THE TIED CARD OF 'monikerlaw2.LexerSounds'. -/
def lexerSoundsCard : Claim7 := { stood := { row := lexerSoundsRow, standIns := [], harness := (true, "1602ce047cbe89cf8d70bd2ab6df644f9824480251398b23eed6a3e6bd3f84bf"), looks := false }, kinds := [], alts := [], laidByText := true, laidKinds := [.data, .data, .data, .pinned, .pinned, .pinned], laidTests := true, laidLooks := .later }
def LexerSoundsCardSaid : Prop := Claim7.holds Tryz.pinned (.plain (OpenSpec.ofChange lexerSoundsSpec)) lexerSoundsCard

/-- THE SECOND FORM's CARD OF 'monikerlaw2.LexerValues'. -/
def lexerValuesUptoCard : Claim7 := { stood := { row := lexerValuesUptoRow, standIns := [], harness := (true, "1602ce047cbe89cf8d70bd2ab6df644f9824480251398b23eed6a3e6bd3f84bf"), looks := false }, kinds := [], alts := [], laidByText := true, laidKinds := [.data, .data, .data, .pinned, .pinned, .pinned], laidTests := true, laidLooks := .later }
def LexerValuesUptoCardSaid : Prop := Claim7.holds Tryz.pinned (.plain (OpenSpec.upto lexerValuesSpec)) lexerValuesUptoCard

/-- THE SECOND FORM's CARD OF 'monikerlaw2.LexerSounds'. -/
def lexerSoundsUptoCard : Claim7 := { stood := { row := lexerSoundsUptoRow, standIns := [], harness := (true, "1602ce047cbe89cf8d70bd2ab6df644f9824480251398b23eed6a3e6bd3f84bf"), looks := false }, kinds := [], alts := [], laidByText := true, laidKinds := [.data, .data, .data, .pinned, .pinned, .pinned], laidTests := true, laidLooks := .later }
def LexerSoundsUptoCardSaid : Prop := Claim7.holds Tryz.pinned (.plain (OpenSpec.upto lexerSoundsSpec)) lexerSoundsUptoCard
end Rows
end Go.Proofs.YthdfccdkomfikabGreatDoor
