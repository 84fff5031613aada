import Derived.Test.YtchcmonhdgndcaaFm
import Derived.Test.YtchcmonhdgndcaaKidP
import Derived.Test.YtchcmonhdgndcaaWb
import Derived.Test.YtchcmonhdgndcaaUpsW
import Derived.Test.YtchcmonhdgndcaaVl5
namespace Go.Proofs.Ytchcmonhdgndcaa
open Go.ChangeShapes Go.WideShapes Go.ChangeAt Go.RowKit
set_option linter.unusedVariables false

theorem But.put0 (B n0 i : Nat) (W : World) (u : Value) : But B n0 W (W.setCell ⟨B, i, none⟩ u) :=
  ⟨(Below.refl 0 W).setCell (p := ⟨B, i, none⟩) (Nat.zero_le _) _, fun k _ hne => Below.heap_setCell W ⟨B, i, none⟩ u k hne⟩
/-- what the first loop's rounds leave in their variables -/
structure FUs where
  (u7 u8 u9 u10 u11 u12 u13 u41 u42 u43 u44 u45 u46 u47 u48 u49 u50 u51 u52 u53 u54 u55 u56 u57 u58 u59 u60 u61 u62 u63 u64 u65 u66 u67 u68 u69 u70 u71 u72 u73 u74 u75 u76 u77 u78 u79 u80 u81 u82 u83 u84 u85 u86 u87 u88 u89 u90 u91 u92 u93 u94 u95 u96 u97 u98 u99 u100 u101 u102 u103 u104 u105 u106 u107 u108 u109 : Value)
/-- what stands behind TreeFamily's first loop -/
noncomputable def famRest : Code := match Try.f5.body with | some (.seq _ (.seq _ (.seq _ (.seq _ (.seq _ (.seq _ c)))))) => c | _ => .skip
/-- the variables behind it -/
def famSt (s : ByteArray) (a1 : Option Addr) (c1 c2 : Nat) (ts : List Tk) (ns : List Nd) (u : Int) (w : World) (b2 o2 : Nat) (us : FUs) : Array Value := #[.agg #[.string s, .slice a1 ts.length c1, .slice (some ⟨b2, o2, none⟩) ns.length c2], .int .u64 u, .pointer (some ⟨w.heap.size, 0, none⟩), undef, .pointer (some ⟨w.heap.size + 1, 0, none⟩), .pointer (some ⟨w.heap.size + 1 + 1, 0, none⟩), .int .i64 ((sm (kc ns) 0 ns.length : Nat) : Int), us.u7, us.u8, us.u9, us.u10, us.u11, us.u12, us.u13, undef, undef, undef, undef, undef, undef, .pointer (some ⟨w.heap.size, 2, none⟩), .agg #[.slice (some ⟨b2, o2, none⟩) ns.length c2], .agg #[.slice (some ⟨b2, o2, none⟩) ns.length c2], .pointer (some ⟨w.heap.size, 1, none⟩), .slice a1 ts.length c1, .int .i64 (ts.length : Int), .bool true, .bool false, undef, undef, undef, undef, undef, undef, .agg #[.slice (some ⟨b2, o2, none⟩) ns.length c2], .int .i64 (-1), .bool false, .pointer (some ⟨w.heap.size + 1 + 1, 0, none⟩), .slice (some ⟨b2, o2, none⟩) ns.length c2, .int .i64 (ns.length : Int), .int .i64 (ns.length : Int), .bool false, us.u42, us.u43, us.u44, us.u45, us.u46, us.u47, us.u48, us.u49, us.u50, us.u51, us.u52, us.u53, us.u54, us.u55, us.u56, us.u57, us.u58, us.u59, us.u60, us.u61, us.u62, us.u63, us.u64, us.u65, us.u66, us.u67, us.u68, us.u69, us.u70, us.u71, us.u72, us.u73, us.u74, us.u75, us.u76, us.u77, us.u78, us.u79, us.u80, us.u81, us.u82, us.u83, us.u84, us.u85, us.u86, us.u87, us.u88, us.u89, us.u90, us.u91, us.u92, us.u93, us.u94, us.u95, us.u96, us.u97, us.u98, us.u99, us.u100, us.u101, us.u102, us.u103, us.u104, us.u105, us.u106, us.u107, us.u108, us.u109, undef, undef, undef, undef, undef, undef, undef, undef, undef, undef, undef, undef, undef, undef, undef, undef, undef, undef, undef, undef, undef, undef, undef, undef, undef, undef, undef, undef, undef, undef, undef, undef, undef, undef, undef, undef, undef, undef, undef, undef, undef, undef, undef, undef, undef, undef]
end Go.Proofs.Ytchcmonhdgndcaa
