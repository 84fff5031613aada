import Derived.Test.YtnaipmgdipflgaaGreatDoorRec
import Derived.Test.YtnaipmgdipflgaaGreatDoorLi0
import Derived.Test.YtnaipmgdipflgaaGreatDoorShf
import Derived.Laws.StructEq
namespace Go.Proofs.YtnaipmgdipflgaaGreatDoor
open Go.ChangeShapes Go.WideShapes Go.ChangeAt Go.RowKit
set_option linter.unusedVariables false

/-- A region that draws its order, over a class of worlds: every operation yields the same in each of them and stays among them (a callee may make memory of its own). -/
theorem region_class {P : Program} {X : Type} (F : X → World) {id : Nat} {Q : Exit → Act → World → Prop} {a : Act} {w : World} {l : List Oper} (hm : P.follows .mixedOrders = true) (hB : Region.lexB .any l.toArray = true)
    (hx : ∃ x, F x = w.drew) (h : wpQuiet P l.toArray (fun w' => ∃ n, w' = F n) (fun a' => ∀ w', (∃ n, w' = F n) → Q .normal a' w') l a) : (Code.region id l.toArray true).wp P Q a w :=
  wp_region_quiet (C := fun w' => ∃ n, w' = F n) hm hB (by obtain ⟨x, hx⟩ := hx; exact ⟨x, hx.symm⟩) (by simpa using h)

/-- the worlds of which D holds, as a row of worlds -/
theorem class_of (D : World → Prop) {w : World} (hw : D w) : ∃ (X : Type) (F : X → World), Nonempty X ∧ (∀ x, D (F x)) ∧ ∀ v, D v → ∃ x, F x = v :=
  ⟨{v : World // D v}, Subtype.val, ⟨⟨w, hw⟩⟩, fun x => x.2, fun v h => ⟨⟨v, h⟩, rfl⟩⟩
end Go.Proofs.YtnaipmgdipflgaaGreatDoor

namespace Go.Proofs.YtnaipmgdipflgaaGreatDoor
open Go.ChangeShapes Go.WideShapes Go.ChangeAt Go.RowKit
set_option linter.unusedVariables false
set_option linter.unusedSimpArgs false

theorem val_fields : Tryz.prog.underlying 25 = some (.struct (Tryz.prog.fieldsOf 25)) := by kernel_rfl
theorem val_held : Tryz.prog.stoodInHeld 25 = false := by kernel_rfl
theorem val_guard : Tryz.prog.eqGuardType Tryz.prog.depth 25 = false := by kernel_rfl

set_option maxRecDepth 100000 in
theorem val_eqIn (w : World) (k k' i i' : Int) (b b' : Bool) (s s' : ByteArray) :
    (Op.equalIn 10000 25 (.agg #[.int .u8 k, .bool b, .int .i64 i, .string s]) (.agg #[.int .u8 k', .bool b', .int .i64 i', .string s'])).run Tryz.prog w = .ok (k == k' && (b == b' && (i == i' && s.toList == s'.toList))) w := by
  rw [run_equalIn_agg _ _ _ _ _ val_fields val_held]
  simp only [Program.fieldsOf, Tryz.underlying25]
  by_cases h1 : k = k' <;> by_cases h2 : b = b' <;> by_cases h3 : i = i' <;> by_cases h4 : s.toList = s'.toList <;> simp [go_sem, Op.eqFields, h1, h2, h3, h4]

theorem val_guarded (w : World) (x y : Operand) (xs ys : Array Value) : (eqGuard .eql 25 x y (.agg xs) (.agg ys)).run Tryz.prog w = .ok () w := run_eqGuard_agg w _ _ x y xs ys val_guard

structure Vl where
  k : Int
  b : Bool
  i : Int
  s : ByteArray
def Vl.v (x : Vl) : Value := .agg #[.int .u8 x.k, .bool x.b, .int .i64 x.i, .string x.s]
def VlFit (x : Vl) : Prop := 0 ≤ x.k ∧ x.k ≤ 255 ∧ -9223372036854775808 ≤ x.i ∧ x.i ≤ 9223372036854775807 ∧ x.s.size ≤ 140737488351232

/-- is a value one of a sort? -/
def rgt (x : Vl) : Bool := (x.k == 1 && x.i == 0 && x.s.toList.isEmpty) || (x.k == 2 && !x.b && x.s.toList.isEmpty) || (x.k == 3 && !x.b && x.i == 0)

set_option maxHeartbeats 4000000 in
theorem truth_any (b : Bool) (w : World) :
    Calls Tryz.prog 45 #[.bool b] w fun e w' => e = .returned (.agg #[.int .u8 1, .bool b, .int .i64 0, .string ⟨#[]⟩]) ∧ Below w.heap.size w w' := by
  go_enter Tryz.func45, Tryz.ntmps45
  go_wp2
  refine bodyPost_ret (v := .agg #[.int .u8 1, .bool b, .int .i64 0, .string ⟨#[]⟩]) (by simp [results, Tryz.results45, go_sem]) rfl ⟨rfl, ?_⟩
  exact (Below.refl _ _).alloc (Nat.le_refl _) _

set_option maxHeartbeats 4000000 in
theorem cnumber_any (n : Int) (w : World) :
    Calls Tryz.prog 47 #[.int .i64 n] w fun e w' => e = .returned (.agg #[.int .u8 2, .bool false, .int .i64 n, .string ⟨#[]⟩]) ∧ Below w.heap.size w w' := by
  go_enter Tryz.func47, Tryz.ntmps47
  go_wp2
  refine bodyPost_ret (v := .agg #[.int .u8 2, .bool false, .int .i64 n, .string ⟨#[]⟩]) (by simp [results, Tryz.results47, go_sem]) rfl ⟨rfl, ?_⟩
  exact (Below.refl _ _).alloc (Nat.le_refl _) _

set_option maxHeartbeats 4000000 in
theorem ctext_any (s : ByteArray) (w : World) :
    Calls Tryz.prog 48 #[.string s] w fun e w' => e = .returned (.agg #[.int .u8 3, .bool false, .int .i64 0, .string s]) ∧ Below w.heap.size w w' := by
  go_enter Tryz.func48, Tryz.ntmps48
  go_wp2
  refine bodyPost_ret (v := .agg #[.int .u8 3, .bool false, .int .i64 0, .string s]) (by simp [results, Tryz.results48, go_sem]) rfl ⟨rfl, ?_⟩
  exact (Below.refl _ _).alloc (Nat.le_refl _) _

set_option maxRecDepth 1000000 in
set_option maxHeartbeats 8000000 in
theorem isRight_any (x : Vl) (w : World) :
    Calls Tryz.prog 25 #[x.v] w fun e w' => e = .returned (.bool (rgt x)) ∧ Below w.heap.size w w' := by
  obtain ⟨k, b, i, s⟩ := x
  show Calls Tryz.prog 25 #[.agg #[.int .u8 k, .bool b, .int .i64 i, .string s]] w _
  obtain ⟨w2, e2, hw, hs2, B0⟩ := bx1 w #[.int .u8 k, .bool b, .int .i64 i, .string s] 25
  have HB0 : Hid (Below w.heap.size w w2) := hw
  have HE2 : Hid (w.alloc (.cells #[.int .u8 k, .bool b, .int .i64 i, .string s] 25) = w2) := e2
  obtain ⟨X, F, hX, hF, onto⟩ := class_of (fun v => Below w2.heap.size w2 v) (Below.refl _ w2)
  have HF : Hid (∀ y, Below w2.heap.size w2 (F y)) := hF
  have HO : Hid (∀ v, Below w2.heap.size w2 v → ∃ x, v = F x) := fun v h => by obtain ⟨x, hx⟩ := onto v h; exact ⟨x, hx.symm⟩
  have f0 : ∀ v, (F v).cell? ⟨w.heap.size, 0, none⟩ = some (.int .u8 k) := fun v => (B0.below (hF v) B0.lt).cell 0
  have f1 : ∀ v, (F v).cell? ⟨w.heap.size, 1, none⟩ = some (.bool b) := fun v => (B0.below (hF v) B0.lt).cell 1
  have f2 : ∀ v, (F v).cell? ⟨w.heap.size, 2, none⟩ = some (.int .i64 i) := fun v => (B0.below (hF v) B0.lt).cell 2
  have f3 : ∀ v, (F v).cell? ⟨w.heap.size, 3, none⟩ = some (.string s) := fun v => (B0.below (hF v) B0.lt).cell 3
  clear hF onto e2 hw hs2 B0
  go_enter Tryz.func25, Tryz.ntmps25
  go_upto_region 1 with fail
  rw [HE2.out]
  refine region_class F (by kernel_rfl) (by kernel_rfl) (by obtain ⟨x, hx⟩ := HO.out _ (Below.refl _ _).drew; exact ⟨x, hx.symm⟩) ?_
  have HC : Hid ((k = 1 ∧ i = 0 ∧ s.toList = []) ∨ (k = 1 ∧ i ≠ 0) ∨ (k = 1 ∧ i = 0 ∧ s.toList ≠ []) ∨ (k = 2 ∧ b = true) ∨ (k = 2 ∧ b = false ∧ s.toList = []) ∨ (k = 2 ∧ b = false ∧ s.toList ≠ []) ∨
      (k = 3 ∧ b = true) ∨ (k = 3 ∧ b = false ∧ i = 0) ∨ (k = 3 ∧ b = false ∧ i ≠ 0) ∨ (k ≠ 1 ∧ k ≠ 2 ∧ k ≠ 3)) := by
    unfold Hid; cases b <;> by_cases h1 : k = 1 <;> by_cases h2 : k = 2 <;> by_cases h3 : k = 3 <;> by_cases h4 : i = 0 <;> by_cases h5 : s.toList = [] <;> simp_all
  have HC2 := HC.out
  clear HC HE2
  rcases HC2 with ⟨rfl, rfl, h3⟩ | ⟨rfl, h2⟩ | ⟨rfl, rfl, h3⟩ | ⟨rfl, rfl⟩ | ⟨rfl, rfl, h3⟩ | ⟨rfl, rfl, h3⟩ | ⟨rfl, rfl⟩ | ⟨rfl, rfl, rfl⟩ | ⟨rfl, rfl, h2⟩ | ⟨h1, h2, h3⟩
  all_goals (
    repeat (go_big_quiet_step (first
      | (go_at_call 45; refine (truth_any _ _).mono ?_; rintro e w5 ⟨rfl, hb5⟩; exact ⟨rfl, HO.out _ ((HF.out _).trans (hb5.mono (HF.out _).size))⟩)
      | (go_at_call 47; refine (cnumber_any _ _).mono ?_; rintro e w5 ⟨rfl, hb5⟩; exact ⟨rfl, HO.out _ ((HF.out _).trans (hb5.mono (HF.out _).size))⟩)
      | (go_at_call 48; refine (ctext_any _ _).mono ?_; rintro e w5 ⟨rfl, hb5⟩; exact ⟨rfl, HO.out _ ((HF.out _).trans (hb5.mono (HF.out _).size))⟩))))
  all_goals refine wpQuiet_nil ?_
  all_goals rintro _ ⟨nq, rfl⟩
  all_goals go_wp2
  all_goals go_ret
  all_goals refine ⟨?_, HB0.out.trans ((HF.out _).mono HB0.out.size)⟩
  all_goals (simp [rgt, *] <;> done)

set_option maxHeartbeats 4000000 in
theorem rRight_any (x : Vl) (w : World) :
    Calls Tryz.prog 10 #[x.v] w fun e w' => e = .returned (.bool (rgt x)) ∧ Below w.heap.size w w' := by
  obtain ⟨k, b, i, s⟩ := x
  show Calls Tryz.prog 10 #[.agg #[.int .u8 k, .bool b, .int .i64 i, .string s]] w _
  have HC : Hid ((k = 1 ∧ i = 0 ∧ s.toList = []) ∨ (k = 1 ∧ i ≠ 0) ∨ (k = 1 ∧ i = 0 ∧ s.toList ≠ []) ∨ (k = 2 ∧ b = true) ∨ (k = 2 ∧ b = false ∧ s.toList = []) ∨ (k = 2 ∧ b = false ∧ s.toList ≠ []) ∨
      (k = 3 ∧ b = true) ∨ (k = 3 ∧ b = false ∧ i = 0) ∨ (k = 3 ∧ b = false ∧ i ≠ 0) ∨ (k ≠ 1 ∧ k ≠ 2 ∧ k ≠ 3)) := by
    unfold Hid; cases b <;> by_cases h1 : k = 1 <;> by_cases h2 : k = 2 <;> by_cases h3 : k = 3 <;> by_cases h4 : i = 0 <;> by_cases h5 : s.toList = [] <;> simp_all
  rcases HC.out with ⟨rfl, rfl, h3⟩ | ⟨rfl, h2⟩ | ⟨rfl, rfl, h3⟩ | ⟨rfl, rfl⟩ | ⟨rfl, rfl, h3⟩ | ⟨rfl, rfl, h3⟩ | ⟨rfl, rfl⟩ | ⟨rfl, rfl, rfl⟩ | ⟨rfl, rfl, h2⟩ | ⟨h1, h2, h3⟩
  all_goals clear HC
  all_goals go_enter Tryz.func10, Tryz.ntmps10
  all_goals go_wp2
  all_goals go_ret
  all_goals refine ⟨?_, by go_grown⟩
  all_goals (simp [rgt, *] <;> done)
end Go.Proofs.YtnaipmgdipflgaaGreatDoor
