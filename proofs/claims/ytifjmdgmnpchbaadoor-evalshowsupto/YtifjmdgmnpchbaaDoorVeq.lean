import Derived.Test.YtifjmdgmnpchbaaDoorBxs
import Derived.Laws.StructEq
namespace Go.Proofs.YtifjmdgmnpchbaaDoor
open Go.ChangeShapes Go.WideShapes Go.ChangeAt Go.RowKit
set_option linter.unusedVariables false
set_option linter.unusedSimpArgs false

theorem val_fields : Tryd.prog.underlying 28 = some (.struct (Tryd.prog.fieldsOf 28)) := by kernel_rfl
theorem val_held : Tryd.prog.stoodInHeld 28 = false := by kernel_rfl
theorem val_guard : Tryd.prog.eqGuardType Tryd.prog.depth 28 = false := by kernel_rfl

set_option maxRecDepth 100000 in
theorem val_eqIn (w : World) (k k' i i' : Int) (b b' : Bool) (s s' : ByteArray) :
    (Op.equalIn 10000 28 (.agg #[.int .u8 k, .bool b, .int .i64 i, .string s]) (.agg #[.int .u8 k', .bool b', .int .i64 i', .string s'])).run Tryd.prog w = .ok (k == k' && (b == b' && (i == i' && s.toList == s'.toList))) w := by
  rw [run_equalIn_agg _ _ _ _ _ val_fields val_held]
  simp only [Program.fieldsOf, Tryd.underlying28]
  by_cases h1 : k = k' <;> by_cases h2 : b = b' <;> by_cases h3 : i = i' <;> by_cases h4 : s.toList = s'.toList <;> simp [go_sem, Op.eqFields, h1, h2, h3, h4]

theorem val_guarded (w : World) (x y : Operand) (xs ys : Array Value) : (eqGuard .eql 28 x y (.agg xs) (.agg ys)).run Tryd.prog w = .ok () w := run_eqGuard_agg w _ _ x y xs ys val_guard
end Go.Proofs.YtifjmdgmnpchbaaDoor
