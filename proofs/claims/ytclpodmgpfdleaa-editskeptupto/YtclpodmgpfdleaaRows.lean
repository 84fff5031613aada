/-
  No cell of these rows narrows 'for every input' (looked for: loops, veiled, ifaces, maps, wideKeys, modest, calm, conditions, laid).
  DERIVED. THE GIVEN ROWS OF THIS SEAT. 5 by the template 'for every input the law returns true; each argument reads behind the call as it read before'; 0 by the template 'total and deterministic' (their statements: YtclpodmgpfdleaaTotals.lean).
  GIVEN WITH THE SEED: the statements are not yours to turn. If you find one false, say at which input.
  Laid BY PROGRAM, IN A SANDBOX (cutbox-rows.mjs): the forced cells as the released guide's own fill.sh prints them over the translation 703632261b7c6b87… (all of the seat's roots in one cut). By AI agents, Wed Nov 11 2026. No macro, syntax, notation, axiom, sorry.
-/
import Derived.Test.YtclpodmgpfdleaaChecked
import GoSem.Claim
import GoSem.ClaimJoined
import GoSem.ClaimMapViews
import Derived.JoinedTies
import Derived.KernelRfl
namespace Go.Proofs.Ytclpodmgpfdleaa
/- THE CELL 'sum', in the pinned program and in every row, IS THE sha256 OF THE DUMP (.gsa) THAT YtclpodmgpfdleaaProg.lean LOADS. Nothing in Lean hashes anything: it is a label: what it is worth is what the hold of that sum in a sandbox is worth. -/
noncomputable def Try.pinned : Pinned := { name := "ytclpodmgpfdleaa", sum := "703632261b7c6b87f3958f4c623d12034f6ac0bcfd9ff2e3ebf5e91a9fc9e2b0", checked := Try.checked }
namespace Rows
def none {H : Type} : Left H := { results := [], args := [] }

/-- 'monikerlaw1.EditsKept': WHATEVER THE INPUT: true; the input reads as it did. -/
def editsKeptSpec : ChangeSpec := { name := "editsKept", fn := fun _ => fun
  | [d1, d2] => { results := [.lit (.bool true)], args := [d1, d2] }
  | _ => none }
def editsKeptRow : OpenClaim := { program := "ytclpodmgpfdleaa", sum := "703632261b7c6b87f3958f4c623d12034f6ac0bcfd9ff2e3ebf5e91a9fc9e2b0", func := "moniker/monikerlaw1.EditsKept", spec := "editsKept", apart := false }
def EditsKeptSaid : Prop := editsKeptRow.holds Try.pinned (OpenSpec.ofChange editsKeptSpec)

/-- ITS FALSE NEIGHBOUR: 'it returns false'. Refute it at one input. -/
def editsKeptWrong : ChangeSpec := { name := "editsKept", fn := fun _ => fun
  | [d1, d2] => { results := [.lit (.bool false)], args := [d1, d2] }
  | _ => none }
def EditsKeptWrongFalsely : Prop := editsKeptRow.holds Try.pinned (OpenSpec.ofChange editsKeptWrong)

/-- 'monikerlaw1.EditsValids': WHATEVER THE INPUT: true; the input reads as it did. -/
def editsValidsSpec : ChangeSpec := { name := "editsValids", fn := fun _ => fun
  | [d1, d2] => { results := [.lit (.bool true)], args := [d1, d2] }
  | _ => none }
def editsValidsRow : OpenClaim := { program := "ytclpodmgpfdleaa", sum := "703632261b7c6b87f3958f4c623d12034f6ac0bcfd9ff2e3ebf5e91a9fc9e2b0", func := "moniker/monikerlaw1.EditsValids", spec := "editsValids", apart := false }
def EditsValidsSaid : Prop := editsValidsRow.holds Try.pinned (OpenSpec.ofChange editsValidsSpec)

/-- ITS FALSE NEIGHBOUR: 'it returns false'. Refute it at one input. -/
def editsValidsWrong : ChangeSpec := { name := "editsValids", fn := fun _ => fun
  | [d1, d2] => { results := [.lit (.bool false)], args := [d1, d2] }
  | _ => none }
def EditsValidsWrongFalsely : Prop := editsValidsRow.holds Try.pinned (OpenSpec.ofChange editsValidsWrong)

/-- 'monikerlaw1.EditsNormals': WHATEVER THE INPUT: true; the input reads as it did. -/
def editsNormalsSpec : ChangeSpec := { name := "editsNormals", fn := fun _ => fun
  | [d1, d2] => { results := [.lit (.bool true)], args := [d1, d2] }
  | _ => none }
def editsNormalsRow : OpenClaim := { program := "ytclpodmgpfdleaa", sum := "703632261b7c6b87f3958f4c623d12034f6ac0bcfd9ff2e3ebf5e91a9fc9e2b0", func := "moniker/monikerlaw1.EditsNormals", spec := "editsNormals", apart := false }
def EditsNormalsSaid : Prop := editsNormalsRow.holds Try.pinned (OpenSpec.ofChange editsNormalsSpec)

/-- ITS FALSE NEIGHBOUR: 'it returns false'. Refute it at one input. -/
def editsNormalsWrong : ChangeSpec := { name := "editsNormals", fn := fun _ => fun
  | [d1, d2] => { results := [.lit (.bool false)], args := [d1, d2] }
  | _ => none }
def EditsNormalsWrongFalsely : Prop := editsNormalsRow.holds Try.pinned (OpenSpec.ofChange editsNormalsWrong)

/-- 'monikerlaw1.EditsLeast': WHATEVER THE INPUT: true; the input reads as it did. -/
def editsLeastSpec : ChangeSpec := { name := "editsLeast", fn := fun _ => fun
  | [d1, d2] => { results := [.lit (.bool true)], args := [d1, d2] }
  | _ => none }
def editsLeastRow : OpenClaim := { program := "ytclpodmgpfdleaa", sum := "703632261b7c6b87f3958f4c623d12034f6ac0bcfd9ff2e3ebf5e91a9fc9e2b0", func := "moniker/monikerlaw1.EditsLeast", spec := "editsLeast", apart := false }
def EditsLeastSaid : Prop := editsLeastRow.holds Try.pinned (OpenSpec.ofChange editsLeastSpec)

/-- ITS FALSE NEIGHBOUR: 'it returns false'. Refute it at one input. -/
def editsLeastWrong : ChangeSpec := { name := "editsLeast", fn := fun _ => fun
  | [d1, d2] => { results := [.lit (.bool false)], args := [d1, d2] }
  | _ => none }
def EditsLeastWrongFalsely : Prop := editsLeastRow.holds Try.pinned (OpenSpec.ofChange editsLeastWrong)

/-- 'monikerlaw1.EditsShifts': WHATEVER THE INPUT: true; the input reads as it did. -/
def editsShiftsSpec : ChangeSpec := { name := "editsShifts", fn := fun _ => fun
  | [d1, d2] => { results := [.lit (.bool true)], args := [d1, d2] }
  | _ => none }
def editsShiftsRow : OpenClaim := { program := "ytclpodmgpfdleaa", sum := "703632261b7c6b87f3958f4c623d12034f6ac0bcfd9ff2e3ebf5e91a9fc9e2b0", func := "moniker/monikerlaw1.EditsShifts", spec := "editsShifts", apart := false }
def EditsShiftsSaid : Prop := editsShiftsRow.holds Try.pinned (OpenSpec.ofChange editsShiftsSpec)

/-- ITS FALSE NEIGHBOUR: 'it returns false'. Refute it at one input. -/
def editsShiftsWrong : ChangeSpec := { name := "editsShifts", fn := fun _ => fun
  | [d1, d2] => { results := [.lit (.bool false)], args := [d1, d2] }
  | _ => none }
def EditsShiftsWrongFalsely : Prop := editsShiftsRow.holds Try.pinned (OpenSpec.ofChange editsShiftsWrong)

/- THE SECOND FORM. 'bulk': how many values and letters a reading holds, each counted each time it is reached (what is shared counts as often as it is met; a slice's spare places count too). A statement '..UptoSaid' is the law's where the arguments, and the package variables that the reading takes, are together of bulk at most 1048576: NARROWER than '..Said'. Prove '..Said' where nothing that the law and all that it calls make is longer than what came in: it says more and counts as full. Else prove '..UptoSaid'. A law counts once. -/
mutual
def uptoBulk {H : Type} : DataW H → Nat
  | .lit (.string bytes) => bytes.length + 1
  | .lit _ => 1
  | .nil => 1
  | .ptr d => uptoBulk d + 1
  | .slice elems spare => uptoBulkAll elems + uptoBulkAll spare + 1
  | .agg parts => uptoBulkAll parts + 1
  | .iface _ d => uptoBulk d + 1
  | .map entries => uptoBulkEntries entries + 1
  | .held _ => 1
def uptoBulkAll {H : Type} : List (DataW H) → Nat
  | [] => 0
  | d :: r => uptoBulk d + uptoBulkAll r
def uptoBulkEntries {H : Type} : List (Lit × DataW H) → Nat
  | [] => 0
  | x :: r => uptoBulkEntry x + uptoBulkEntries r
def uptoBulkEntry {H : Type} : Lit × DataW H → Nat
  | (.string bytes, d) => bytes.length + uptoBulk d + 1
  | (_, d) => uptoBulk d + 1
 end
def uptoSmall : (H : Type) → List (DataW H) → Bool := fun _ ds => decide (uptoBulkAll ds ≤ 1048576)
def OpenSpec.upto (s : _root_.Go.ChangeSpec) : _root_.Go.OpenSpec := { _root_.Go.OpenSpec.ofChange s with cond := some uptoSmall }

/-- 'monikerlaw1.EditsKept', WHERE WHAT IT READS IS OF BULK AT MOST 1048576: true; the input reads as it did. -/
def editsKeptUptoRow : OpenClaim := { program := "ytclpodmgpfdleaa", sum := "703632261b7c6b87f3958f4c623d12034f6ac0bcfd9ff2e3ebf5e91a9fc9e2b0", func := "moniker/monikerlaw1.EditsKept", spec := "editsKept", apart := false, narrowed := true }
def EditsKeptUptoSaid : Prop := editsKeptUptoRow.holds Try.pinned (OpenSpec.upto editsKeptSpec)

/-- 'monikerlaw1.EditsValids', WHERE WHAT IT READS IS OF BULK AT MOST 1048576: true; the input reads as it did. -/
def editsValidsUptoRow : OpenClaim := { program := "ytclpodmgpfdleaa", sum := "703632261b7c6b87f3958f4c623d12034f6ac0bcfd9ff2e3ebf5e91a9fc9e2b0", func := "moniker/monikerlaw1.EditsValids", spec := "editsValids", apart := false, narrowed := true }
def EditsValidsUptoSaid : Prop := editsValidsUptoRow.holds Try.pinned (OpenSpec.upto editsValidsSpec)

/-- 'monikerlaw1.EditsNormals', WHERE WHAT IT READS IS OF BULK AT MOST 1048576: true; the input reads as it did. -/
def editsNormalsUptoRow : OpenClaim := { program := "ytclpodmgpfdleaa", sum := "703632261b7c6b87f3958f4c623d12034f6ac0bcfd9ff2e3ebf5e91a9fc9e2b0", func := "moniker/monikerlaw1.EditsNormals", spec := "editsNormals", apart := false, narrowed := true }
def EditsNormalsUptoSaid : Prop := editsNormalsUptoRow.holds Try.pinned (OpenSpec.upto editsNormalsSpec)

/-- 'monikerlaw1.EditsLeast', WHERE WHAT IT READS IS OF BULK AT MOST 1048576: true; the input reads as it did. -/
def editsLeastUptoRow : OpenClaim := { program := "ytclpodmgpfdleaa", sum := "703632261b7c6b87f3958f4c623d12034f6ac0bcfd9ff2e3ebf5e91a9fc9e2b0", func := "moniker/monikerlaw1.EditsLeast", spec := "editsLeast", apart := false, narrowed := true }
def EditsLeastUptoSaid : Prop := editsLeastUptoRow.holds Try.pinned (OpenSpec.upto editsLeastSpec)

/-- 'monikerlaw1.EditsShifts', WHERE WHAT IT READS IS OF BULK AT MOST 1048576: true; the input reads as it did. -/
def editsShiftsUptoRow : OpenClaim := { program := "ytclpodmgpfdleaa", sum := "703632261b7c6b87f3958f4c623d12034f6ac0bcfd9ff2e3ebf5e91a9fc9e2b0", func := "moniker/monikerlaw1.EditsShifts", spec := "editsShifts", apart := false, narrowed := true }
def EditsShiftsUptoSaid : Prop := editsShiftsUptoRow.holds Try.pinned (OpenSpec.upto editsShiftsSpec)

end Rows
end Go.Proofs.Ytclpodmgpfdleaa
