/-
  DERIVED. GIVEN WITH THE SEED: THE CARDS: each row of YtphejjghgalkpaaDoorRows.lean that lists a variable, with what it lists TIED to the program's text (the seventh form; the later family's looks); each row that meets fmt, with fmt's text TOLD by the authors' own Lean function (tested against real Go, not proved from fmt's source: count such statements apart). THE CARD IS WHAT COUNTS. Prove the row's statement (the work); the ties are given (YtphejjghgalkpaaDoorTie.lean); close each card by the builder's one call (the guide's Derived/Test/ToyasCard.lean, 'card_holds'). Laid BY PROGRAM, IN A SANDBOX (cutbox-door.mjs). By AI agents, Wed Nov 11 2026. No macro, syntax, notation, axiom, sorry.
-/
import Derived.Test.YtphejjghgalkpaaDoorRows
import GoSem.ClaimSeven
namespace Go.Proofs.YtphejjghgalkpaaDoor
namespace Rows

/-- THE TIED CARD OF 'monikerlaw2.LexerBack'. -/
def lexerBackCard : Claim7 := { stood := { row := lexerBackRow, standIns := [], harness := (true, "f8b038043dab83c4fd974e4f8abba8006b8fd485fe208bf91af667687ee04b06"), looks := false }, kinds := [], alts := [], laidByText := true, laidKinds := [.data, .data, .data, .pinned, .pinned, .pinned], laidTests := true, laidLooks := .later }
def LexerBackCardSaid : Prop := Claim7.holds Tryd.pinned (.plain (OpenSpec.ofChange lexerBackSpec)) lexerBackCard

/-- THE TIED CARD OF 'monikerlaw2.LexerMade'. -/
def lexerMadeCard : Claim7 := { stood := { row := lexerMadeRow, standIns := [], harness := (true, "f8b038043dab83c4fd974e4f8abba8006b8fd485fe208bf91af667687ee04b06"), looks := false }, kinds := [], alts := [], laidByText := true, laidKinds := [.data, .data, .data, .pinned, .pinned, .pinned], laidTests := true, laidLooks := .later }
def LexerMadeCardSaid : Prop := Claim7.holds Tryd.pinned (.plain (OpenSpec.ofChange lexerMadeSpec)) lexerMadeCard

/-- THE SECOND FORM's CARD OF 'monikerlaw2.LexerBack'. -/
def lexerBackUptoCard : Claim7 := { stood := { row := lexerBackUptoRow, standIns := [], harness := (true, "f8b038043dab83c4fd974e4f8abba8006b8fd485fe208bf91af667687ee04b06"), looks := false }, kinds := [], alts := [], laidByText := true, laidKinds := [.data, .data, .data, .pinned, .pinned, .pinned], laidTests := true, laidLooks := .later }
def LexerBackUptoCardSaid : Prop := Claim7.holds Tryd.pinned (.plain (OpenSpec.upto lexerBackSpec)) lexerBackUptoCard

/-- THE SECOND FORM's CARD OF 'monikerlaw2.LexerMade'. -/
def lexerMadeUptoCard : Claim7 := { stood := { row := lexerMadeUptoRow, standIns := [], harness := (true, "f8b038043dab83c4fd974e4f8abba8006b8fd485fe208bf91af667687ee04b06"), looks := false }, kinds := [], alts := [], laidByText := true, laidKinds := [.data, .data, .data, .pinned, .pinned, .pinned], laidTests := true, laidLooks := .later }
def LexerMadeUptoCardSaid : Prop := Claim7.holds Tryd.pinned (.plain (OpenSpec.upto lexerMadeSpec)) lexerMadeUptoCard
end Rows
end Go.Proofs.YtphejjghgalkpaaDoor
