/-
  DERIVED. GIVEN WITH THE SEED: THE CARDS: each row of YtnaipmgdipflgaaGreatDoorRows.lean that lists a variable, with what it lists TIED to the program's text (the seventh form; the later family's looks); each row that meets fmt, with fmt's text TOLD by the authors' own Lean function (tested against real Go, not proved from fmt's source: count such statements apart). THE CARD IS WHAT COUNTS. Prove the row's statement (the work); the ties are given (YtnaipmgdipflgaaGreatDoorTie.lean); close each card by the builder's one call (the guide's Derived/Test/ToyasCard.lean, 'card_holds'). Laid BY PROGRAM, IN A SANDBOX (cutbox-door.mjs). By AI agents, Wed Nov 11 2026. No macro, syntax, notation, axiom, sorry.
-/
import Derived.Test.YtnaipmgdipflgaaGreatDoorRows
import GoSem.ClaimSeven
namespace Go.Proofs.YtnaipmgdipflgaaGreatDoor
namespace Rows

/-- THE TIED CARD OF 'monikerlaw8.ConstLiterals'. -/
def constLiteralsCard : Claim7 := { stood := { row := constLiteralsRow, standIns := [], harness := (true, "994da2f56227f7a826e05f564fccf39b20e0da6a1c8026a927fa066ed74c7f7c"), looks := true }, kinds := [], alts := [], laidByText := true, laidKinds := [.data, .data, .data, .pinned, .pinned, .pinned], laidTests := true, laidLooks := .later }
def ConstLiteralsCardSaid : Prop := Claim7.holds Tryz.pinned (.plain (OpenSpec.ofChange constLiteralsSpec)) constLiteralsCard

/-- THE TIED CARD OF 'monikerlaw8.ConstBack'. -/
def constBackCard : Claim7 := { stood := { row := constBackRow, standIns := [], harness := (true, "994da2f56227f7a826e05f564fccf39b20e0da6a1c8026a927fa066ed74c7f7c"), looks := true }, kinds := [], alts := [], laidByText := true, laidKinds := [.data, .data, .data, .data, .sentinel, .sentinel, .data, .data, .pinned, .pinned, .pinned], laidTests := true, laidLooks := .later }
def ConstBackCardSaid : Prop := Claim7.holds Tryz.pinned (.plain (OpenSpec.ofChange constBackSpec)) constBackCard

/-- THE TIED CARD OF 'monikerlaw8.ConstShows'. -/
def constShowsCard : Claim7 := { stood := { row := constShowsRow, standIns := [], harness := (true, "994da2f56227f7a826e05f564fccf39b20e0da6a1c8026a927fa066ed74c7f7c"), looks := true }, kinds := [], alts := [], laidByText := true, laidKinds := [.data, .data, .data, .data, .sentinel, .sentinel, .data, .data, .pinned, .pinned, .pinned], laidTests := true, laidLooks := .later }
def ConstShowsCardSaid : Prop := Claim7.holds Tryz.pinned (.plain (OpenSpec.ofChange constShowsSpec)) constShowsCard

/-- THE SECOND FORM's CARD OF 'monikerlaw8.ConstLiterals'. -/
def constLiteralsUptoCard : Claim7 := { stood := { row := constLiteralsUptoRow, standIns := [], harness := (true, "994da2f56227f7a826e05f564fccf39b20e0da6a1c8026a927fa066ed74c7f7c"), looks := true }, kinds := [], alts := [], laidByText := true, laidKinds := [.data, .data, .data, .pinned, .pinned, .pinned], laidTests := true, laidLooks := .later }
def ConstLiteralsUptoCardSaid : Prop := Claim7.holds Tryz.pinned (.plain (OpenSpec.upto constLiteralsSpec)) constLiteralsUptoCard

/-- THE SECOND FORM's CARD OF 'monikerlaw8.ConstBack'. -/
def constBackUptoCard : Claim7 := { stood := { row := constBackUptoRow, standIns := [], harness := (true, "994da2f56227f7a826e05f564fccf39b20e0da6a1c8026a927fa066ed74c7f7c"), looks := true }, kinds := [], alts := [], laidByText := true, laidKinds := [.data, .data, .data, .data, .sentinel, .sentinel, .data, .data, .pinned, .pinned, .pinned], laidTests := true, laidLooks := .later }
def ConstBackUptoCardSaid : Prop := Claim7.holds Tryz.pinned (.plain (OpenSpec.upto constBackSpec)) constBackUptoCard

/-- THE SECOND FORM's CARD OF 'monikerlaw8.ConstShows'. -/
def constShowsUptoCard : Claim7 := { stood := { row := constShowsUptoRow, standIns := [], harness := (true, "994da2f56227f7a826e05f564fccf39b20e0da6a1c8026a927fa066ed74c7f7c"), looks := true }, kinds := [], alts := [], laidByText := true, laidKinds := [.data, .data, .data, .data, .sentinel, .sentinel, .data, .data, .pinned, .pinned, .pinned], laidTests := true, laidLooks := .later }
def ConstShowsUptoCardSaid : Prop := Claim7.holds Tryz.pinned (.plain (OpenSpec.upto constShowsSpec)) constShowsUptoCard
end Rows
end Go.Proofs.YtnaipmgdipflgaaGreatDoor
