/-
  No cell of these rows narrows 'for every input' (looked for: loops, veiled, ifaces, maps, wideKeys, modest, calm, conditions, laid).
  DERIVED. THE GIVEN ROWS OF THIS SEAT. 6 by the template 'for every input the law returns true; each argument reads behind the call as it read before'; 0 by the template 'total and deterministic' (their statements: YtdalnofiiomgoaaTotals.lean).
  GIVEN WITH THE SEED: the statements are not yours to turn. If you find one false, say at which input.
  Laid BY PROGRAM, IN A SANDBOX (cutbox-rows.mjs): the forced cells as the released guide's own fill.sh prints them over the translation aee133c97a1106fa… (all of the seat's roots in one cut). By AI agents, Wed Nov 11 2026. No macro, syntax, notation, axiom, sorry.
-/
import Derived.Test.YtdalnofiiomgoaaChecked
import GoSem.Claim
import GoSem.ClaimJoined
import GoSem.ClaimMapViews
import Derived.JoinedTies
import Derived.KernelRfl
namespace Go.Proofs.Ytdalnofiiomgoaa
/- THE CELL 'sum', in the pinned program and in every row, IS THE sha256 OF THE DUMP (.gsa) THAT YtdalnofiiomgoaaProg.lean LOADS. Nothing in Lean hashes anything: it is a label: what it is worth is what the hold of that sum in a sandbox is worth. -/
noncomputable def Try.pinned : Pinned := { name := "ytdalnofiiomgoaa", sum := "aee133c97a1106fa79740da2223308bfc68f652644ee4f4bc290729a1973103a", checked := Try.checked }
namespace Rows
def none {H : Type} : Left H := { results := [], args := [] }

/-- 'monikerlaw4.TreeAsked': WHATEVER THE INPUT: true; the input reads as it did. -/
def treeAskedSpec : ChangeSpec := { name := "treeAsked", fn := fun _ => fun
  | [d1, d2, d3] => { results := [.lit (.bool true)], args := [d1, d2, d3] }
  | _ => none }
def treeAskedRow : OpenClaim := { program := "ytdalnofiiomgoaa", sum := "aee133c97a1106fa79740da2223308bfc68f652644ee4f4bc290729a1973103a", func := "moniker/monikerlaw4.TreeAsked", spec := "treeAsked", unfollowed := true, recurses := true, apart := false }
def TreeAskedSaid : Prop := treeAskedRow.holds Try.pinned (OpenSpec.ofChange treeAskedSpec)

/-- ITS FALSE NEIGHBOUR: 'it returns false'. Refute it at one input. -/
def treeAskedWrong : ChangeSpec := { name := "treeAsked", fn := fun _ => fun
  | [d1, d2, d3] => { results := [.lit (.bool false)], args := [d1, d2, d3] }
  | _ => none }
def TreeAskedWrongFalsely : Prop := treeAskedRow.holds Try.pinned (OpenSpec.ofChange treeAskedWrong)

/-- 'monikerlaw4.TreeLater': WHATEVER THE INPUT: true; the input reads as it did. -/
def treeLaterSpec : ChangeSpec := { name := "treeLater", fn := fun _ => fun
  | [d1, d2, d3] => { results := [.lit (.bool true)], args := [d1, d2, d3] }
  | _ => none }
def treeLaterRow : OpenClaim := { program := "ytdalnofiiomgoaa", sum := "aee133c97a1106fa79740da2223308bfc68f652644ee4f4bc290729a1973103a", func := "moniker/monikerlaw4.TreeLater", spec := "treeLater", unfollowed := true, recurses := true, apart := false }
def TreeLaterSaid : Prop := treeLaterRow.holds Try.pinned (OpenSpec.ofChange treeLaterSpec)

/-- ITS FALSE NEIGHBOUR: 'it returns false'. Refute it at one input. -/
def treeLaterWrong : ChangeSpec := { name := "treeLater", fn := fun _ => fun
  | [d1, d2, d3] => { results := [.lit (.bool false)], args := [d1, d2, d3] }
  | _ => none }
def TreeLaterWrongFalsely : Prop := treeLaterRow.holds Try.pinned (OpenSpec.ofChange treeLaterWrong)

/-- 'monikerlaw4.TreeAts': WHATEVER THE INPUT: true; the input reads as it did. -/
def treeAtsSpec : ChangeSpec := { name := "treeAts", fn := fun _ => fun
  | [d1, d2] => { results := [.lit (.bool true)], args := [d1, d2] }
  | _ => none }
def treeAtsRow : OpenClaim := { program := "ytdalnofiiomgoaa", sum := "aee133c97a1106fa79740da2223308bfc68f652644ee4f4bc290729a1973103a", func := "moniker/monikerlaw4.TreeAts", spec := "treeAts", unfollowed := true, recurses := true, apart := false }
def TreeAtsSaid : Prop := treeAtsRow.holds Try.pinned (OpenSpec.ofChange treeAtsSpec)

/-- ITS FALSE NEIGHBOUR: 'it returns false'. Refute it at one input. -/
def treeAtsWrong : ChangeSpec := { name := "treeAts", fn := fun _ => fun
  | [d1, d2] => { results := [.lit (.bool false)], args := [d1, d2] }
  | _ => none }
def TreeAtsWrongFalsely : Prop := treeAtsRow.holds Try.pinned (OpenSpec.ofChange treeAtsWrong)

/-- 'monikerlaw4.TreeUps': WHATEVER THE INPUT: true; the input reads as it did. -/
def treeUpsSpec : ChangeSpec := { name := "treeUps", fn := fun _ => fun
  | [d1, d2] => { results := [.lit (.bool true)], args := [d1, d2] }
  | _ => none }
def treeUpsRow : OpenClaim := { program := "ytdalnofiiomgoaa", sum := "aee133c97a1106fa79740da2223308bfc68f652644ee4f4bc290729a1973103a", func := "moniker/monikerlaw4.TreeUps", spec := "treeUps", unfollowed := true, recurses := true, apart := false }
def TreeUpsSaid : Prop := treeUpsRow.holds Try.pinned (OpenSpec.ofChange treeUpsSpec)

/-- ITS FALSE NEIGHBOUR: 'it returns false'. Refute it at one input. -/
def treeUpsWrong : ChangeSpec := { name := "treeUps", fn := fun _ => fun
  | [d1, d2] => { results := [.lit (.bool false)], args := [d1, d2] }
  | _ => none }
def TreeUpsWrongFalsely : Prop := treeUpsRow.holds Try.pinned (OpenSpec.ofChange treeUpsWrong)

/-- 'monikerlaw4.TreeWalks': WHATEVER THE INPUT: true; the input reads as it did. -/
def treeWalksSpec : ChangeSpec := { name := "treeWalks", fn := fun _ => fun
  | [d1, d2, d3, d4] => { results := [.lit (.bool true)], args := [d1, d2, d3, d4] }
  | _ => none }
def treeWalksRow : OpenClaim := { program := "ytdalnofiiomgoaa", sum := "aee133c97a1106fa79740da2223308bfc68f652644ee4f4bc290729a1973103a", func := "moniker/monikerlaw4.TreeWalks", spec := "treeWalks", unfollowed := true, recurses := true, apart := false }
def TreeWalksSaid : Prop := treeWalksRow.holds Try.pinned (OpenSpec.ofChange treeWalksSpec)

/-- ITS FALSE NEIGHBOUR: 'it returns false'. Refute it at one input. -/
def treeWalksWrong : ChangeSpec := { name := "treeWalks", fn := fun _ => fun
  | [d1, d2, d3, d4] => { results := [.lit (.bool false)], args := [d1, d2, d3, d4] }
  | _ => none }
def TreeWalksWrongFalsely : Prop := treeWalksRow.holds Try.pinned (OpenSpec.ofChange treeWalksWrong)

/-- 'monikerlaw4.TreeValids': WHATEVER THE INPUT: true; the input reads as it did. -/
def treeValidsSpec : ChangeSpec := { name := "treeValids", fn := fun _ => fun
  | [d1, d2] => { results := [.lit (.bool true)], args := [d1, d2] }
  | _ => none }
def treeValidsRow : OpenClaim := { program := "ytdalnofiiomgoaa", sum := "aee133c97a1106fa79740da2223308bfc68f652644ee4f4bc290729a1973103a", func := "moniker/monikerlaw4.TreeValids", spec := "treeValids", unfollowed := true, recurses := true, apart := false }
def TreeValidsSaid : Prop := treeValidsRow.holds Try.pinned (OpenSpec.ofChange treeValidsSpec)

/-- ITS FALSE NEIGHBOUR: 'it returns false'. Refute it at one input. -/
def treeValidsWrong : ChangeSpec := { name := "treeValids", fn := fun _ => fun
  | [d1, d2] => { results := [.lit (.bool false)], args := [d1, d2] }
  | _ => none }
def TreeValidsWrongFalsely : Prop := treeValidsRow.holds Try.pinned (OpenSpec.ofChange treeValidsWrong)

/- THE SECOND FORM. 'bulk': how many values and letters a reading holds, each counted each time it is reached (what is shared counts as often as it is met; a slice's spare places count too). A statement '..UptoSaid' is the law's where the arguments, and the package variables that the reading takes, are together of bulk at most 1048576: NARROWER than '..Said'. Prove '..Said' where nothing that the law and all that it calls make is longer than what came in: it says more and counts as full. Else prove '..UptoSaid'. A law counts once. -/
mutual
def uptoBulk {H : Type} : DataW H → Nat
  | .lit (.string bytes) => bytes.length + 1
  | .lit _ => 1
  | .nil => 1
  | .ptr d => uptoBulk d + 1
  | .slice elems spare => uptoBulkAll elems + uptoBulkAll spare + 1
  | .agg parts => uptoBulkAll parts + 1
  | .iface _ d => uptoBulk d + 1
  | .map entries => uptoBulkEntries entries + 1
  | .held _ => 1
def uptoBulkAll {H : Type} : List (DataW H) → Nat
  | [] => 0
  | d :: r => uptoBulk d + uptoBulkAll r
def uptoBulkEntries {H : Type} : List (Lit × DataW H) → Nat
  | [] => 0
  | x :: r => uptoBulkEntry x + uptoBulkEntries r
def uptoBulkEntry {H : Type} : Lit × DataW H → Nat
  | (.string bytes, d) => bytes.length + uptoBulk d + 1
  | (_, d) => uptoBulk d + 1
 end
def uptoSmall : (H : Type) → List (DataW H) → Bool := fun _ ds => decide (uptoBulkAll ds ≤ 1048576)
def OpenSpec.upto (s : _root_.Go.ChangeSpec) : _root_.Go.OpenSpec := { _root_.Go.OpenSpec.ofChange s with cond := some uptoSmall }

/-- 'monikerlaw4.TreeAsked', WHERE WHAT IT READS IS OF BULK AT MOST 1048576: true; the input reads as it did. -/
def treeAskedUptoRow : OpenClaim := { program := "ytdalnofiiomgoaa", sum := "aee133c97a1106fa79740da2223308bfc68f652644ee4f4bc290729a1973103a", func := "moniker/monikerlaw4.TreeAsked", spec := "treeAsked", unfollowed := true, recurses := true, apart := false, narrowed := true }
def TreeAskedUptoSaid : Prop := treeAskedUptoRow.holds Try.pinned (OpenSpec.upto treeAskedSpec)

/-- 'monikerlaw4.TreeLater', WHERE WHAT IT READS IS OF BULK AT MOST 1048576: true; the input reads as it did. -/
def treeLaterUptoRow : OpenClaim := { program := "ytdalnofiiomgoaa", sum := "aee133c97a1106fa79740da2223308bfc68f652644ee4f4bc290729a1973103a", func := "moniker/monikerlaw4.TreeLater", spec := "treeLater", unfollowed := true, recurses := true, apart := false, narrowed := true }
def TreeLaterUptoSaid : Prop := treeLaterUptoRow.holds Try.pinned (OpenSpec.upto treeLaterSpec)

/-- 'monikerlaw4.TreeAts', WHERE WHAT IT READS IS OF BULK AT MOST 1048576: true; the input reads as it did. -/
def treeAtsUptoRow : OpenClaim := { program := "ytdalnofiiomgoaa", sum := "aee133c97a1106fa79740da2223308bfc68f652644ee4f4bc290729a1973103a", func := "moniker/monikerlaw4.TreeAts", spec := "treeAts", unfollowed := true, recurses := true, apart := false, narrowed := true }
def TreeAtsUptoSaid : Prop := treeAtsUptoRow.holds Try.pinned (OpenSpec.upto treeAtsSpec)

/-- 'monikerlaw4.TreeUps', WHERE WHAT IT READS IS OF BULK AT MOST 1048576: true; the input reads as it did. -/
def treeUpsUptoRow : OpenClaim := { program := "ytdalnofiiomgoaa", sum := "aee133c97a1106fa79740da2223308bfc68f652644ee4f4bc290729a1973103a", func := "moniker/monikerlaw4.TreeUps", spec := "treeUps", unfollowed := true, recurses := true, apart := false, narrowed := true }
def TreeUpsUptoSaid : Prop := treeUpsUptoRow.holds Try.pinned (OpenSpec.upto treeUpsSpec)

/-- 'monikerlaw4.TreeWalks', WHERE WHAT IT READS IS OF BULK AT MOST 1048576: true; the input reads as it did. -/
def treeWalksUptoRow : OpenClaim := { program := "ytdalnofiiomgoaa", sum := "aee133c97a1106fa79740da2223308bfc68f652644ee4f4bc290729a1973103a", func := "moniker/monikerlaw4.TreeWalks", spec := "treeWalks", unfollowed := true, recurses := true, apart := false, narrowed := true }
def TreeWalksUptoSaid : Prop := treeWalksUptoRow.holds Try.pinned (OpenSpec.upto treeWalksSpec)

/-- 'monikerlaw4.TreeValids', WHERE WHAT IT READS IS OF BULK AT MOST 1048576: true; the input reads as it did. -/
def treeValidsUptoRow : OpenClaim := { program := "ytdalnofiiomgoaa", sum := "aee133c97a1106fa79740da2223308bfc68f652644ee4f4bc290729a1973103a", func := "moniker/monikerlaw4.TreeValids", spec := "treeValids", unfollowed := true, recurses := true, apart := false, narrowed := true }
def TreeValidsUptoSaid : Prop := treeValidsUptoRow.holds Try.pinned (OpenSpec.upto treeValidsSpec)

end Rows
end Go.Proofs.Ytdalnofiiomgoaa
