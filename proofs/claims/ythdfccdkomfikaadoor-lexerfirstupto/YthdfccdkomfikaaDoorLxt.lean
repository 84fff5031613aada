import Derived.Test.YthdfccdkomfikaaDoorLx2
namespace Go.Proofs.YthdfccdkomfikaaDoor
open Go.ChangeShapes Go.WideShapes Go.ChangeAt Go.RowKit
set_option linter.unusedVariables false
set_option linter.unusedSimpArgs false

theorem tabs_below {a b B : Nat} {w w' : World} (h : Lib.Utf8Tabs a b w) (hb : Below B w w') (ha : a < B) (hc : b < B) : Lib.Utf8Tabs a b w' :=
  ⟨fun c hc' => (World.cell?_of_block (a := ⟨a, c, none⟩) (hb.block a ha)).trans (h.1 c hc'), fun i hi => ⟨(World.cell?_of_block (a := ⟨b, 2 * i, none⟩) (hb.block b hc)).trans (h.2 i hi).1, (World.cell?_of_block (a := ⟨b, 2 * i + 1, none⟩) (hb.block b hc)).trans (h.2 i hi).2⟩⟩
end Go.Proofs.YthdfccdkomfikaaDoor
