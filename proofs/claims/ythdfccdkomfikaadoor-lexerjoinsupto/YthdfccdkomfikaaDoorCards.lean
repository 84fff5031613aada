/-
  DERIVED. GIVEN WITH THE SEED: THE CARDS: each row of YthdfccdkomfikaaDoorRows.lean that lists a variable, with what it lists TIED to the program's text (the seventh form; the later family's looks); each row that meets fmt, with fmt's text TOLD by the authors' own Lean function (tested against real Go, not proved from fmt's source: count such statements apart). THE CARD IS WHAT COUNTS. Prove the row's statement (the work); the ties are given (YthdfccdkomfikaaDoorTie.lean); close each card by the builder's one call (the guide's Derived/Test/ToyasCard.lean, 'card_holds'). Laid BY PROGRAM, IN A SANDBOX (cutbox-door.mjs). By AI agents, Wed Nov 11 2026. No macro, syntax, notation, axiom, sorry.
-/
import Derived.Test.YthdfccdkomfikaaDoorRows
import GoSem.ClaimSeven
namespace Go.Proofs.YthdfccdkomfikaaDoor
namespace Rows

/-- THE TIED CARD OF 'monikerlaw2.LexerFirst'. -/
def lexerFirstCard : Claim7 := { stood := { row := lexerFirstRow, standIns := [], harness := (true, "a78e004d032a75bfbb7d87bd6ce59bc6fcfa9029c879156e9db5c049233d96d3"), looks := false }, kinds := [], alts := [], laidByText := true, laidKinds := [.data, .data, .data, .pinned, .pinned, .pinned], laidTests := true, laidLooks := .later }
def LexerFirstCardSaid : Prop := Claim7.holds Tryd.pinned (.plain (OpenSpec.ofChange lexerFirstSpec)) lexerFirstCard

/-- THE TIED CARD OF 'monikerlaw2.LexerCovers'. -/
def lexerCoversCard : Claim7 := { stood := { row := lexerCoversRow, standIns := [], harness := (true, "a78e004d032a75bfbb7d87bd6ce59bc6fcfa9029c879156e9db5c049233d96d3"), looks := false }, kinds := [], alts := [], laidByText := true, laidKinds := [.data, .data, .data, .pinned, .pinned, .pinned], laidTests := true, laidLooks := .later }
def LexerCoversCardSaid : Prop := Claim7.holds Tryd.pinned (.plain (OpenSpec.ofChange lexerCoversSpec)) lexerCoversCard

/-- THE TIED CARD OF 'monikerlaw2.LexerJoins'. -/
def lexerJoinsCard : Claim7 := { stood := { row := lexerJoinsRow, standIns := [], harness := (true, "a78e004d032a75bfbb7d87bd6ce59bc6fcfa9029c879156e9db5c049233d96d3"), looks := false }, kinds := [], alts := [], laidByText := true, laidKinds := [.data, .data, .data, .pinned, .pinned, .pinned], laidTests := true, laidLooks := .later }
def LexerJoinsCardSaid : Prop := Claim7.holds Tryd.pinned (.plain (OpenSpec.ofChange lexerJoinsSpec)) lexerJoinsCard

/-- THE SECOND FORM's CARD OF 'monikerlaw2.LexerFirst'. -/
def lexerFirstUptoCard : Claim7 := { stood := { row := lexerFirstUptoRow, standIns := [], harness := (true, "a78e004d032a75bfbb7d87bd6ce59bc6fcfa9029c879156e9db5c049233d96d3"), looks := false }, kinds := [], alts := [], laidByText := true, laidKinds := [.data, .data, .data, .pinned, .pinned, .pinned], laidTests := true, laidLooks := .later }
def LexerFirstUptoCardSaid : Prop := Claim7.holds Tryd.pinned (.plain (OpenSpec.upto lexerFirstSpec)) lexerFirstUptoCard

/-- THE SECOND FORM's CARD OF 'monikerlaw2.LexerCovers'. -/
def lexerCoversUptoCard : Claim7 := { stood := { row := lexerCoversUptoRow, standIns := [], harness := (true, "a78e004d032a75bfbb7d87bd6ce59bc6fcfa9029c879156e9db5c049233d96d3"), looks := false }, kinds := [], alts := [], laidByText := true, laidKinds := [.data, .data, .data, .pinned, .pinned, .pinned], laidTests := true, laidLooks := .later }
def LexerCoversUptoCardSaid : Prop := Claim7.holds Tryd.pinned (.plain (OpenSpec.upto lexerCoversSpec)) lexerCoversUptoCard

/-- THE SECOND FORM's CARD OF 'monikerlaw2.LexerJoins'. -/
def lexerJoinsUptoCard : Claim7 := { stood := { row := lexerJoinsUptoRow, standIns := [], harness := (true, "a78e004d032a75bfbb7d87bd6ce59bc6fcfa9029c879156e9db5c049233d96d3"), looks := false }, kinds := [], alts := [], laidByText := true, laidKinds := [.data, .data, .data, .pinned, .pinned, .pinned], laidTests := true, laidLooks := .later }
def LexerJoinsUptoCardSaid : Prop := Claim7.holds Tryd.pinned (.plain (OpenSpec.upto lexerJoinsSpec)) lexerJoinsUptoCard
end Rows
end Go.Proofs.YthdfccdkomfikaaDoor
