import Derived.Test.YtnifjeopmfhhhaaDoorDw6
import Derived.Test.YtnifjeopmfhhhaaDoorDw7
import Derived.Test.YtnifjeopmfhhhaaDoorDw8
import Derived.Test.YtnifjeopmfhhhaaDoorDrawsV
import Derived.Test.YtnifjeopmfhhhaaDoorNam
namespace Go.Proofs.YtnifjeopmfhhhaaDoor
open Go.ChangeShapes Go.WideShapes Go.ChangeAt Go.RowKit
set_option linter.unusedVariables false

theorem treeDraws_walk (s : ByteArray) (w : World) (hs : s.size ≤ 1048576) (t0 : TypeId) (fr : Nat × Nat) (hA : w.heap[0]? = some (.cells (nmA nams) t0 fr)) (hN : NmdAt nams w) :
    Calls Tryd.prog 3 #[.string s] w fun e w' => e = .returned (.bool true) ∧ Below w.heap.size w w' := by
  obtain ⟨L, E, P, hq⟩ : ∃ a b c, dr nams s.data.toList (s.size + 1) 0 [] [] = (a, b, c) := ⟨_, _, _, rfl⟩
  have hLl : L.length ≤ 1048576 := by
    have h := dr_len nams_len nams_some s.data.toList (s.size + 1) 0 [] [] (Nat.zero_le _) (Nat.zero_le _)
    rw [hq, dlen] at h
    exact Nat.le_trans h hs
  exact draws_both s w L E P hLl (fun v hv => draw_any nams nams_len nams_12 nams_some s v hs t0 fr ((hv.block _ (lt_of_block hA)).trans hA) L E P hq) (fun v hv => rdraw_any nams nams_len nams_12 nams_some nams_once s v hs (hN.below hv) L E P hq)
end Go.Proofs.YtnifjeopmfhhhaaDoor
