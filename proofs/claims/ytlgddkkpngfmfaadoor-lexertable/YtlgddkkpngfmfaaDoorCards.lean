/-
  DERIVED. GIVEN WITH THE SEED: THE CARDS: each row of YtlgddkkpngfmfaaDoorRows.lean that lists a variable, with what it lists TIED to the program's text (the seventh form; the later family's looks); each row that meets fmt, with fmt's text TOLD by the authors' own Lean function (tested against real Go, not proved from fmt's source: count such statements apart). THE CARD IS WHAT COUNTS. Prove the row's statement (the work); the ties are given (YtlgddkkpngfmfaaDoorTie.lean); close each card by the builder's one call (the guide's Derived/Test/ToyasCard.lean, 'card_holds'). Laid BY PROGRAM, IN A SANDBOX (cutbox-door.mjs). By AI agents, Wed Nov 11 2026. No macro, syntax, notation, axiom, sorry.
-/
import Derived.Test.YtlgddkkpngfmfaaDoorRows
import GoSem.ClaimSeven
namespace Go.Proofs.YtlgddkkpngfmfaaDoor
namespace Rows

/-- THE TIED CARD OF 'monikerlaw2.LexerQuotes'. -/
def lexerQuotesCard : Claim7 := { stood := { row := lexerQuotesRow, standIns := [], harness := (true, "0717c46c4f8a728030ccacbdf681e00799c85d5f6186cb57e0a405698596444e"), looks := false }, kinds := [], alts := [], laidByText := true, laidKinds := [.data, .data, .data, .pinned, .pinned, .pinned], laidTests := true, laidLooks := .later }
def LexerQuotesCardSaid : Prop := Claim7.holds Tryd.pinned (.plain (OpenSpec.ofChange lexerQuotesSpec)) lexerQuotesCard

/-- THE TIED CARD OF 'monikerlaw2.LexerTable'. -/
def lexerTableCard : Claim7 := { stood := { row := lexerTableRow, standIns := [], harness := (true, "0717c46c4f8a728030ccacbdf681e00799c85d5f6186cb57e0a405698596444e"), looks := false }, kinds := [], alts := [], laidByText := true, laidKinds := [.data, .data, .data, .pinned, .pinned, .pinned], laidTests := true, laidLooks := .later }
def LexerTableCardSaid : Prop := Claim7.holds Tryd.pinned (.plain (OpenSpec.ofChange lexerTableSpec)) lexerTableCard

/-- THE SECOND FORM's CARD OF 'monikerlaw2.LexerQuotes'. -/
def lexerQuotesUptoCard : Claim7 := { stood := { row := lexerQuotesUptoRow, standIns := [], harness := (true, "0717c46c4f8a728030ccacbdf681e00799c85d5f6186cb57e0a405698596444e"), looks := false }, kinds := [], alts := [], laidByText := true, laidKinds := [.data, .data, .data, .pinned, .pinned, .pinned], laidTests := true, laidLooks := .later }
def LexerQuotesUptoCardSaid : Prop := Claim7.holds Tryd.pinned (.plain (OpenSpec.upto lexerQuotesSpec)) lexerQuotesUptoCard

/-- THE SECOND FORM's CARD OF 'monikerlaw2.LexerTable'. -/
def lexerTableUptoCard : Claim7 := { stood := { row := lexerTableUptoRow, standIns := [], harness := (true, "0717c46c4f8a728030ccacbdf681e00799c85d5f6186cb57e0a405698596444e"), looks := false }, kinds := [], alts := [], laidByText := true, laidKinds := [.data, .data, .data, .pinned, .pinned, .pinned], laidTests := true, laidLooks := .later }
def LexerTableUptoCardSaid : Prop := Claim7.holds Tryd.pinned (.plain (OpenSpec.upto lexerTableSpec)) lexerTableUptoCard
end Rows
end Go.Proofs.YtlgddkkpngfmfaaDoor
