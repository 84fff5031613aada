import Derived.Test.YtchcmonhdgndcaaFamW
import Derived.Test.YtchcmonhdgndcaaFamR
namespace Go.Proofs.Ytchcmonhdgndcaa
open Go.ChangeShapes Go.WideShapes Go.ChangeAt Go.RowKit
set_option linter.unusedVariables false

theorem treeFamily_walk (s : ByteArray) (a1 a2 : Option Addr) (c1 c2 : Nat) (ts : List Tk) (ns : List Nd) (u : Int) (w : World) (h1 : LiesA w a1 ts) (h2 : LiesA w a2 ns) (hn1 : a1 = none → ts.length = 0 ∧ c1 = 0) (hn2 : a2 = none → ns.length = 0 ∧ c2 = 0)
    (hl1 : ts.length * 24 ≤ 140737488351232) (hl2 : ns.length * 32 ≤ 140737488351232) (hs : s.size ≤ 140737488351232) (hf1 : ∀ e ∈ ts, TkFit e) (hf2 : ∀ e ∈ ns, NdFit e) (bu0 : 0 ≤ u) (bu1 : u ≤ 18446744073709551615) :
    Calls Try.prog 5 #[.agg #[.string s, .slice a1 ts.length c1, .slice a2 ns.length c2], .int .u64 u] w fun e w' => e = .returned (.bool true) ∧ Below w.heap.size w w' :=
  treeFamily_first s a1 a2 c1 c2 ts ns u w h1 h2 hn1 hn2 hl1 hl2 hs hf1 hf2 bu0 bu1
    (fun hv b2 o2 us Dl B v _ hL hb2 hbel hres hc5 hB1 hB2 hM => fam_rest s a1 c1 c2 ts ns u w b2 o2 us Dl B v hv hl2 bu0 bu1 hL hb2 hbel hres hc5 hB1 hB2 hM)
end Go.Proofs.Ytchcmonhdgndcaa
