import Derived.Test.YtijcfgeafgddkaaDoorKd1
namespace Go.Proofs.YtijcfgeafgddkaaDoor
open Go.ChangeShapes Go.WideShapes Go.ChangeAt Go.RowKit
set_option linter.unusedVariables false

theorem ret_s {a b : ByteArray} (h : a = b) : Ending.returned (.string a) = .returned (.string b) := by rw [h]
end Go.Proofs.YtijcfgeafgddkaaDoor
