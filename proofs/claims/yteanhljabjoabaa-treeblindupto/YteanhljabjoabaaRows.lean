/-
  No cell of these rows narrows 'for every input' (looked for: loops, veiled, ifaces, maps, wideKeys, modest, calm, conditions, laid).
  DERIVED. THE GIVEN ROWS OF THIS SEAT. 4 by the template 'for every input the law returns true; each argument reads behind the call as it read before'; 0 by the template 'total and deterministic' (their statements: YteanhljabjoabaaTotals.lean).
  GIVEN WITH THE SEED: the statements are not yours to turn. If you find one false, say at which input.
  Laid BY PROGRAM, IN A SANDBOX (cutbox-rows.mjs): the forced cells as the released guide's own fill.sh prints them over the translation 59c308d8e44f5cb8… (all of the seat's roots in one cut). By AI agents, Wed Nov 11 2026. No macro, syntax, notation, axiom, sorry.
-/
import Derived.Test.YteanhljabjoabaaChecked
import GoSem.Claim
import GoSem.ClaimJoined
import GoSem.ClaimMapViews
import Derived.JoinedTies
import Derived.KernelRfl
namespace Go.Proofs.Yteanhljabjoabaa
/- THE CELL 'sum', in the pinned program and in every row, IS THE sha256 OF THE DUMP (.gsa) THAT YteanhljabjoabaaProg.lean LOADS. Nothing in Lean hashes anything: it is a label: what it is worth is what the hold of that sum in a sandbox is worth. -/
noncomputable def Try.pinned : Pinned := { name := "yteanhljabjoabaa", sum := "59c308d8e44f5cb84bd254a09175f1f07d4d60a6822dc73e8f60b7ace1b62688", checked := Try.checked }
namespace Rows
def none {H : Type} : Left H := { results := [], args := [] }

/-- 'monikerlaw4.TreeBytes': WHATEVER THE INPUT: true; the input reads as it did. -/
def treeBytesSpec : ChangeSpec := { name := "treeBytes", fn := fun _ => fun
  | [d] => { results := [.lit (.bool true)], args := [d] }
  | _ => none }
def treeBytesRow : OpenClaim := { program := "yteanhljabjoabaa", sum := "59c308d8e44f5cb84bd254a09175f1f07d4d60a6822dc73e8f60b7ace1b62688", func := "moniker/monikerlaw4.TreeBytes", spec := "treeBytes", unfollowed := true, recurses := true, apart := false }
def TreeBytesSaid : Prop := treeBytesRow.holds Try.pinned (OpenSpec.ofChange treeBytesSpec)

/-- ITS FALSE NEIGHBOUR: 'it returns false'. Refute it at one input. -/
def treeBytesWrong : ChangeSpec := { name := "treeBytes", fn := fun _ => fun
  | [d] => { results := [.lit (.bool false)], args := [d] }
  | _ => none }
def TreeBytesWrongFalsely : Prop := treeBytesRow.holds Try.pinned (OpenSpec.ofChange treeBytesWrong)

/-- 'monikerlaw4.TreeTokens': WHATEVER THE INPUT: true; the input reads as it did. -/
def treeTokensSpec : ChangeSpec := { name := "treeTokens", fn := fun _ => fun
  | [d] => { results := [.lit (.bool true)], args := [d] }
  | _ => none }
def treeTokensRow : OpenClaim := { program := "yteanhljabjoabaa", sum := "59c308d8e44f5cb84bd254a09175f1f07d4d60a6822dc73e8f60b7ace1b62688", func := "moniker/monikerlaw4.TreeTokens", spec := "treeTokens", unfollowed := true, recurses := true, apart := false }
def TreeTokensSaid : Prop := treeTokensRow.holds Try.pinned (OpenSpec.ofChange treeTokensSpec)

/-- ITS FALSE NEIGHBOUR: 'it returns false'. Refute it at one input. -/
def treeTokensWrong : ChangeSpec := { name := "treeTokens", fn := fun _ => fun
  | [d] => { results := [.lit (.bool false)], args := [d] }
  | _ => none }
def TreeTokensWrongFalsely : Prop := treeTokensRow.holds Try.pinned (OpenSpec.ofChange treeTokensWrong)

/-- 'monikerlaw4.TreeFamily': WHATEVER THE INPUT: true; the input reads as it did. -/
def treeFamilySpec : ChangeSpec := { name := "treeFamily", fn := fun _ => fun
  | [d1, d2] => { results := [.lit (.bool true)], args := [d1, d2] }
  | _ => none }
def treeFamilyRow : OpenClaim := { program := "yteanhljabjoabaa", sum := "59c308d8e44f5cb84bd254a09175f1f07d4d60a6822dc73e8f60b7ace1b62688", func := "moniker/monikerlaw4.TreeFamily", spec := "treeFamily", unfollowed := true, recurses := true, apart := false }
def TreeFamilySaid : Prop := treeFamilyRow.holds Try.pinned (OpenSpec.ofChange treeFamilySpec)

/-- ITS FALSE NEIGHBOUR: 'it returns false'. Refute it at one input. -/
def treeFamilyWrong : ChangeSpec := { name := "treeFamily", fn := fun _ => fun
  | [d1, d2] => { results := [.lit (.bool false)], args := [d1, d2] }
  | _ => none }
def TreeFamilyWrongFalsely : Prop := treeFamilyRow.holds Try.pinned (OpenSpec.ofChange treeFamilyWrong)

/-- 'monikerlaw4.TreeBlind': WHATEVER THE INPUT: true; the input reads as it did. -/
def treeBlindSpec : ChangeSpec := { name := "treeBlind", fn := fun _ => fun
  | [d1, d2] => { results := [.lit (.bool true)], args := [d1, d2] }
  | _ => none }
def treeBlindRow : OpenClaim := { program := "yteanhljabjoabaa", sum := "59c308d8e44f5cb84bd254a09175f1f07d4d60a6822dc73e8f60b7ace1b62688", func := "moniker/monikerlaw4.TreeBlind", spec := "treeBlind", inPlace := ["internal/abi.NoEscape"], unfollowed := true, recurses := true, apart := false }
def TreeBlindSaid : Prop := treeBlindRow.holds Try.pinned (OpenSpec.ofChange treeBlindSpec)

/-- ITS FALSE NEIGHBOUR: 'it returns false'. Refute it at one input. -/
def treeBlindWrong : ChangeSpec := { name := "treeBlind", fn := fun _ => fun
  | [d1, d2] => { results := [.lit (.bool false)], args := [d1, d2] }
  | _ => none }
def TreeBlindWrongFalsely : Prop := treeBlindRow.holds Try.pinned (OpenSpec.ofChange treeBlindWrong)

/- THE SECOND FORM. 'bulk': how many values and letters a reading holds, each counted each time it is reached (what is shared counts as often as it is met; a slice's spare places count too). A statement '..UptoSaid' is the law's where the arguments, and the package variables that the reading takes, are together of bulk at most 1048576: NARROWER than '..Said'. Prove '..Said' where nothing that the law and all that it calls make is longer than what came in: it says more and counts as full. Else prove '..UptoSaid'. A law counts once. -/
mutual
def uptoBulk {H : Type} : DataW H → Nat
  | .lit (.string bytes) => bytes.length + 1
  | .lit _ => 1
  | .nil => 1
  | .ptr d => uptoBulk d + 1
  | .slice elems spare => uptoBulkAll elems + uptoBulkAll spare + 1
  | .agg parts => uptoBulkAll parts + 1
  | .iface _ d => uptoBulk d + 1
  | .map entries => uptoBulkEntries entries + 1
  | .held _ => 1
def uptoBulkAll {H : Type} : List (DataW H) → Nat
  | [] => 0
  | d :: r => uptoBulk d + uptoBulkAll r
def uptoBulkEntries {H : Type} : List (Lit × DataW H) → Nat
  | [] => 0
  | x :: r => uptoBulkEntry x + uptoBulkEntries r
def uptoBulkEntry {H : Type} : Lit × DataW H → Nat
  | (.string bytes, d) => bytes.length + uptoBulk d + 1
  | (_, d) => uptoBulk d + 1
 end
def uptoSmall : (H : Type) → List (DataW H) → Bool := fun _ ds => decide (uptoBulkAll ds ≤ 1048576)
def OpenSpec.upto (s : _root_.Go.ChangeSpec) : _root_.Go.OpenSpec := { _root_.Go.OpenSpec.ofChange s with cond := some uptoSmall }

/-- 'monikerlaw4.TreeBytes', WHERE WHAT IT READS IS OF BULK AT MOST 1048576: true; the input reads as it did. -/
def treeBytesUptoRow : OpenClaim := { program := "yteanhljabjoabaa", sum := "59c308d8e44f5cb84bd254a09175f1f07d4d60a6822dc73e8f60b7ace1b62688", func := "moniker/monikerlaw4.TreeBytes", spec := "treeBytes", unfollowed := true, recurses := true, apart := false, narrowed := true }
def TreeBytesUptoSaid : Prop := treeBytesUptoRow.holds Try.pinned (OpenSpec.upto treeBytesSpec)

/-- 'monikerlaw4.TreeTokens', WHERE WHAT IT READS IS OF BULK AT MOST 1048576: true; the input reads as it did. -/
def treeTokensUptoRow : OpenClaim := { program := "yteanhljabjoabaa", sum := "59c308d8e44f5cb84bd254a09175f1f07d4d60a6822dc73e8f60b7ace1b62688", func := "moniker/monikerlaw4.TreeTokens", spec := "treeTokens", unfollowed := true, recurses := true, apart := false, narrowed := true }
def TreeTokensUptoSaid : Prop := treeTokensUptoRow.holds Try.pinned (OpenSpec.upto treeTokensSpec)

/-- 'monikerlaw4.TreeFamily', WHERE WHAT IT READS IS OF BULK AT MOST 1048576: true; the input reads as it did. -/
def treeFamilyUptoRow : OpenClaim := { program := "yteanhljabjoabaa", sum := "59c308d8e44f5cb84bd254a09175f1f07d4d60a6822dc73e8f60b7ace1b62688", func := "moniker/monikerlaw4.TreeFamily", spec := "treeFamily", unfollowed := true, recurses := true, apart := false, narrowed := true }
def TreeFamilyUptoSaid : Prop := treeFamilyUptoRow.holds Try.pinned (OpenSpec.upto treeFamilySpec)

/-- 'monikerlaw4.TreeBlind', WHERE WHAT IT READS IS OF BULK AT MOST 1048576: true; the input reads as it did. -/
def treeBlindUptoRow : OpenClaim := { program := "yteanhljabjoabaa", sum := "59c308d8e44f5cb84bd254a09175f1f07d4d60a6822dc73e8f60b7ace1b62688", func := "moniker/monikerlaw4.TreeBlind", spec := "treeBlind", inPlace := ["internal/abi.NoEscape"], unfollowed := true, recurses := true, apart := false, narrowed := true }
def TreeBlindUptoSaid : Prop := treeBlindUptoRow.holds Try.pinned (OpenSpec.upto treeBlindSpec)

end Rows
end Go.Proofs.Yteanhljabjoabaa
