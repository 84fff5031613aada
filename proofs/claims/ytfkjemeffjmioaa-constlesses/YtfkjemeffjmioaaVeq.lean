import Derived.Test.YtfkjemeffjmioaaBxs
import Derived.Laws.StructEq
namespace Go.Proofs.Ytfkjemeffjmioaa
open Go.ChangeShapes Go.WideShapes Go.ChangeAt Go.RowKit
set_option linter.unusedVariables false

theorem val_fields : Try.prog.underlying 26 = some (.struct (Try.prog.fieldsOf 26)) := by kernel_rfl
theorem val_held : Try.prog.stoodInHeld 26 = false := by kernel_rfl
theorem val_guard : Try.prog.eqGuardType Try.prog.depth 26 = false := by kernel_rfl

set_option maxRecDepth 100000 in
theorem val_eqIn (w : World) (k k' i i' : Int) (b b' : Bool) (s s' : ByteArray) :
    (Op.equalIn 10000 26 (.agg #[.int .u8 k, .bool b, .int .i64 i, .string s]) (.agg #[.int .u8 k', .bool b', .int .i64 i', .string s'])).run Try.prog w = .ok (k == k' && (b == b' && (i == i' && s.toList == s'.toList))) w := by
  rw [run_equalIn_agg _ _ _ _ _ val_fields val_held]
  simp only [Program.fieldsOf, Try.underlying26]
  by_cases h1 : k = k' <;> by_cases h2 : b = b' <;> by_cases h3 : i = i' <;> by_cases h4 : s.toList = s'.toList <;> simp [go_sem, Op.eqFields, h1, h2, h3, h4]

theorem val_guarded (w : World) (x y : Operand) (xs ys : Array Value) : (eqGuard .eql 26 x y (.agg xs) (.agg ys)).run Try.prog w = .ok () w := run_eqGuard_agg w _ _ x y xs ys val_guard
end Go.Proofs.Ytfkjemeffjmioaa
