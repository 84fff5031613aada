import Derived.Test.YtnifjeopmfhhhaaDoorDw5
import Derived.Test.YtnifjeopmfhhhaaDoorSmN
import Derived.Test.YtnifjeopmfhhhaaDoorCls
namespace Go.Proofs.YtnifjeopmfhhhaaDoor
open Go.ChangeShapes Go.WideShapes Go.ChangeAt Go.RowKit
set_option linter.unusedVariables false

set_option maxRecDepth 1000000 in
set_option maxHeartbeats 2000000 in
theorem draws_both (s : ByteArray) (w : World) (L : List Nd) (E : Int) (P : Nat) (hLl : L.length ≤ 1048576)
    (h1 : ∀ v, Below w.heap.size w v → Calls Tryd.prog 4 #[.string s] v fun e w' => ∃ a cap, e = .returned (.tuple #[.agg #[.slice a L.length cap], .int .i64 E, .int .i64 (P : Int)]) ∧ LiesA w' a L ∧ Below v.heap.size v w')
    (h2 : ∀ v, Below w.heap.size w v → Calls Tryd.prog 5 #[.string s] v fun e w' => ∃ a cap, e = .returned (.tuple #[.agg #[.slice a L.length cap], .int .i64 E, .int .i64 (P : Int)]) ∧ LiesA w' a L ∧ Below v.heap.size v w') :
    Calls Tryd.prog 3 #[.string s] w fun e w' => e = .returned (.bool true) ∧ Below w.heap.size w w' := by
  have HD1 : Hid (∀ v, Below w.heap.size w v → Calls Tryd.prog 4 #[.string s] v fun e w' => ∃ a cap, e = .returned (.tuple #[.agg #[.slice a L.length cap], .int .i64 E, .int .i64 (P : Int)]) ∧ LiesA w' a L ∧ Below v.heap.size v w') := h1
  have HD2 : Hid (∀ v, Below w.heap.size w v → Calls Tryd.prog 5 #[.string s] v fun e w' => ∃ a cap, e = .returned (.tuple #[.agg #[.slice a L.length cap], .int .i64 E, .int .i64 (P : Int)]) ∧ LiesA w' a L ∧ Below v.heap.size v w') := h2
  clear h1 h2
  go_enter Tryd.func3, Tryd.ntmps3
  have hEE : (E == E) = true := beq_self_eq_true _
  have hPP : ((P : Int) == (P : Int)) = true := beq_self_eq_true _
  go_wp2_with (first
    | (go_at_call 4; (with_reducible refine (HD1.out _ (Below.refl _ _)).mono ?_); rintro e w1 ⟨a1, c1, rfl, hl1, hb1⟩; have HL1 : Hid (LiesA w1 a1 L) := hl1; have HB1 : Hid (Below w.heap.size w w1) := hb1; obtain ⟨v1, e1, hw1, hs1, X1⟩ := bx1 w1 #[.slice a1 L.length c1] 24; have HE1 : Hid (w1.alloc (.cells #[.slice a1 L.length c1] 24) = v1) := e1; have HW1 : Hid (Below w1.heap.size w1 v1) := hw1; have HX1 : Hid (Bx v1 w1.heap.size #[.slice a1 L.length c1] 24) := X1; clear hl1 hb1 e1 hw1 X1)
    | (go_at_call 5; rw [HE1.out]; (with_reducible refine (HD2.out _ (HB1.out.trans (HW1.out.mono HB1.out.size))).mono ?_); rintro e w2 ⟨a2, c2, rfl, hl2, hb2⟩; have HL2 : Hid (LiesA w2 a2 L) := hl2; have HB2 : Hid (Below v1.heap.size v1 w2) := hb2; have x2 : (w2.alloc (.cells #[.slice a2 L.length c2] 24)).cell? ⟨w2.heap.size, 0, none⟩ = some (.slice a2 L.length c2) := (Bx.new w2 _ _).one; have x1 : (w2.alloc (.cells #[.slice a2 L.length c2] 24)).cell? ⟨w1.heap.size, 0, none⟩ = some (.slice a1 L.length c1) := ((HX1.out.below hb2 HX1.out.lt).alloc _).one; have HG1 : Hid (Below w1.heap.size w1 (w2.alloc (.cells #[.slice a2 L.length c2] 24))) := ((HW1.out.trans (hb2.mono HW1.out.size)).alloc (Nat.le_trans HW1.out.size hb2.size) _); have HG2 : Hid (Below w2.heap.size w2 (w2.alloc (.cells #[.slice a2 L.length c2] 24))) := (Below.refl _ _).alloc (Nat.le_refl _) _; clear hl2 hb2)
    | (go_at_call 6; (with_reducible refine (same_tree a1 a2 c1 c2 L _ (HL1.out.below HG1.out) (HL2.out.below HG2.out) (by unfold maxLen; omega)).mono ?_); rintro e w3 ⟨rfl, hb3⟩; have HB3 : Hid (Below w.heap.size w w3) := (HB1.out.trans (HG1.out.mono HB1.out.size)).trans (hb3.mono (HB1.out.trans (HG1.out.mono HB1.out.size)).size); clear hb3))
  go_ret
  exact ⟨rfl, HB3.out⟩
end Go.Proofs.YtnifjeopmfhhhaaDoor
