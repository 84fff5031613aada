import Derived.Test.YtijcfgeafgddkaaDoorBkl
namespace Go.Proofs.YtijcfgeafgddkaaDoor
open Go.ChangeShapes Go.WideShapes Go.ChangeAt Go.RowKit
set_option linter.unusedVariables false

set_option maxHeartbeats 400000 in
theorem bLen_at (b : Nat) (a : Option Addr) (n c : Nat) (w : World) (c1 : w.cell? ⟨b, 1, none⟩ = some (.slice a n c)) :
    Calls Tryd.prog 22 #[.pointer (some ⟨b, 0, none⟩)] w fun e w' => e = .returned (.int .i64 n) ∧ w = w' := by
  go_enter Tryd.func22, Tryd.ntmps22
  go_wp2
  go_ret
  exact ⟨rfl, rfl⟩
end Go.Proofs.YtijcfgeafgddkaaDoor
