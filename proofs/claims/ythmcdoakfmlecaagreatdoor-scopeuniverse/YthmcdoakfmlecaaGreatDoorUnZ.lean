import Derived.Test.YthmcdoakfmlecaaGreatDoorUnW
namespace Go.Proofs.YthmcdoakfmlecaaGreatDoor
open Go.ChangeShapes Go.WideShapes Go.ChangeAt Go.RowKit Go.Deep
set_option linter.unusedVariables false

theorem field_piece (w : World) : (Instr.field 65 (.agg #[.bool false, .int .i64 (-1), .int .i64 (-1)]) 0).run Tryz.prog w = .ok (.bool false) w ∧
    (Instr.field 65 (.agg #[.bool false, .int .i64 (-1), .int .i64 (-1)]) 1).run Tryz.prog w = .ok (.int .i64 (-1)) w ∧
    (Instr.field 65 (.agg #[.bool false, .int .i64 (-1), .int .i64 (-1)]) 2).run Tryz.prog w = .ok (.int .i64 (-1)) w :=
  ⟨by kernel_rfl, by kernel_rfl, by kernel_rfl⟩

set_option maxRecDepth 1000000 in
set_option maxHeartbeats 2000000 in
theorem decls_nil (v : World) : Calls Tryz.prog 7 #[.pointer none] v fun e w' => e = .returned (.slice none 0 0) ∧ Below v.heap.size v w' := by
  go_enter Tryz.func7, Tryz.ntmps7
  go_wp2
  go_ret
  exact ⟨rfl, Below.refl _ _⟩

set_option maxRecDepth 1000000 in
set_option maxHeartbeats 2000000 in
theorem bound_nil (i j : Int) (v : World) : Calls Tryz.prog 8 #[.pointer none, .agg #[.int .i64 i, .int .i64 j]] v fun e w' => e = .returned (.int .i64 (-1)) ∧ Below v.heap.size v w' := by
  have hfld := fun w => (field_piece w).2.2
  go_enter Tryz.func8, Tryz.ntmps8
  go_wp2_with (go_at_call 18; (refine (piece_nil i j _).mono ?_); rintro e w1 ⟨rfl, hb1⟩; have HB1 : Hid (Below v.heap.size v w1) := ((Below.refl _ v).alloc (Nat.le_refl _) _).trans (hb1.mono (by simp)); clear hb1)
  go_ret
  exact ⟨rfl, HB1.out⟩

set_option maxRecDepth 1000000 in
set_option maxHeartbeats 2000000 in
theorem makes_nil (i j : Int) (v : World) : Calls Tryz.prog 9 #[.pointer none, .agg #[.int .i64 i, .int .i64 j]] v fun e w' => e = .returned (.int .i64 (-1)) ∧ Below v.heap.size v w' := by
  have hfld := fun w => (field_piece w).2.1
  go_enter Tryz.func9, Tryz.ntmps9
  go_wp2_with (go_at_call 18; (refine (piece_nil i j _).mono ?_); rintro e w1 ⟨rfl, hb1⟩; have HB1 : Hid (Below v.heap.size v w1) := ((Below.refl _ v).alloc (Nat.le_refl _) _).trans (hb1.mono (by simp)); clear hb1)
  go_ret
  exact ⟨rfl, HB1.out⟩

set_option maxRecDepth 1000000 in
set_option maxHeartbeats 2000000 in
theorem known_nil (i j : Int) (v : World) : Calls Tryz.prog 10 #[.pointer none, .agg #[.int .i64 i, .int .i64 j]] v fun e w' => e = .returned (.slice none 0 0) ∧ Below v.heap.size v w' := by
  have hfld := fun w => (field_piece w).1
  go_enter Tryz.func10, Tryz.ntmps10
  go_wp2_with (go_at_call 18; (refine (piece_nil i j _).mono ?_); rintro e w1 ⟨rfl, hb1⟩; have HB1 : Hid (Below v.heap.size v w1) := ((Below.refl _ v).alloc (Nat.le_refl _) _).trans (hb1.mono (by simp)); clear hb1)
  go_ret
  exact ⟨rfl, HB1.out⟩

set_option maxRecDepth 1000000 in
set_option maxHeartbeats 2000000 in
theorem resolve_nil (v : World) : Calls Tryz.prog 6 #[.pointer none] v fun e w' => e = .returned (.tuple #[.pointer none, .agg #[.int .i64 1, .int .i64 0, .int .i64 0]]) ∧ Below v.heap.size v w' := by
  go_enter Tryz.func6, Tryz.ntmps6
  go_wp2
  refine bodyPost_ret (v := .tuple #[.pointer none, .agg #[.int .i64 1, .int .i64 0, .int .i64 0]]) (by simp [results, Tryz.results6, go_sem]) rfl ⟨rfl, ?_⟩
  exact (Below.refl _ _).alloc (Nat.le_refl _) _

set_option maxRecDepth 1000000 in
set_option maxHeartbeats 2000000 in
theorem scopeUniverse_walk (x : ByteArray) (i j : Int) (a : Addr) (cap : Nat) (v : World) (h : UniAt v a cap) :
    Calls Tryz.prog 3 #[.string x, .agg #[.int .i64 i, .int .i64 j]] v fun e w' => e = .returned (.bool true) ∧ Below v.heap.size v w' := by
  obtain ⟨R, hR⟩ : ∃ R, ixF x.data.toList 0 uni = R := ⟨_, rfl⟩
  have U1 : Hid (∀ w, UniAt w a cap → Calls Tryz.prog 4 #[.string x] w fun e w' => e = .returned (.int .i64 R) ∧ Below w.heap.size w w') := fun w hw => universe_any x a cap w hw R hR
  have U2 : Hid (∀ w, UniAt w a cap → Calls Tryz.prog 5 #[.string x] w fun e w' => e = .returned (.int .i64 R) ∧ Below w.heap.size w w') := fun w hw => runiverse_any x a cap w hw R hR
  have H : Hid (UniAt v a cap) := h
  clear h hR
  obtain ⟨w0, hw0⟩ : ∃ w0, v.alloc (.cells #[.int .i64 i, .int .i64 j] 23) = w0 := ⟨_, rfl⟩
  have HW : Hid (Below v.heap.size v w0 ∧ v.heap.size + 1 = w0.heap.size ∧ w0.cell? ⟨v.heap.size, 0, none⟩ = some (.int .i64 i) ∧ w0.cell? ⟨v.heap.size, 1, none⟩ = some (.int .i64 j)) := by
    unfold Hid
    rw [← hw0]
    refine ⟨(Below.refl _ v).alloc (Nat.le_refl _) _, by simp, ?_, ?_⟩
    · unfold World.cell?
      rw [heap_alloc_new]
      rfl
    · unfold World.cell?
      rw [heap_alloc_new]
      rfl
  have hat : ∀ w, Below w0.heap.size w0 w → w.cell? ⟨v.heap.size, 0, none⟩ = some (.int .i64 i) ∧ w.cell? ⟨v.heap.size, 1, none⟩ = some (.int .i64 j) := fun w hb => by
    have h1 := HW.out.2.1
    exact ⟨(hb.cell (p := ⟨v.heap.size, 0, none⟩) (by show v.heap.size < w0.heap.size; omega)).trans HW.out.2.2.1, (hb.cell (p := ⟨v.heap.size, 1, none⟩) (by show v.heap.size < w0.heap.size; omega)).trans HW.out.2.2.2⟩
  have AT : Hid (∀ w, Below w0.heap.size w0 w → w.cell? ⟨v.heap.size, 0, none⟩ = some (.int .i64 i) ∧ w.cell? ⟨v.heap.size, 1, none⟩ = some (.int .i64 j)) := hat
  clear hat
  go_enter Tryz.func3, Tryz.ntmps3
  go_wp2_with (first
    | (go_at_call 4; (with_reducible refine (U1.out _ (H.out.below HW.out.1)).mono ?_); rintro e w1 ⟨rfl, hb⟩; have HB1 : Hid (Below w0.heap.size w0 w1) := hb; clear hb)
    | (go_at_call 5; (with_reducible refine (U2.out _ ((H.out.below HW.out.1).below HB1.out)).mono ?_); rintro e w2 ⟨rfl, hb⟩; have HB2 : Hid (Below w0.heap.size w0 w2) := HB1.out.trans (hb.mono HB1.out.size); clear hb)
    | (go_at_call 6; (with_reducible refine (resolve_nil _).mono ?_); rintro e w3 ⟨rfl, hb⟩; have HB3 : Hid (Below w0.heap.size w0 w3) := HB2.out.trans (hb.mono HB2.out.size); clear hb)
    | (go_at_call 7; (with_reducible refine (decls_nil _).mono ?_); rintro e w4 ⟨rfl, hb⟩; have HB4 : Hid (Below w0.heap.size w0 w4) := (HB3.out.alloc HB3.out.size _).trans (hb.mono (by have := HB3.out.size; simp; omega)); clear hb; have d0 := (AT.out _ HB4.out).1; have d1 := (AT.out _ HB4.out).2)
    | (go_at_call 8; (with_reducible refine (bound_nil i j _).mono ?_); rintro e w5 ⟨rfl, hb⟩; have HB5 : Hid (Below w0.heap.size w0 w5) := HB4.out.trans (hb.mono HB4.out.size); clear hb d0 d1; have d0 := (AT.out _ HB5.out).1; have d1 := (AT.out _ HB5.out).2)
    | (go_at_call 9; (with_reducible refine (makes_nil i j _).mono ?_); rintro e w6 ⟨rfl, hb⟩; have HB6 : Hid (Below w0.heap.size w0 w6) := HB5.out.trans (hb.mono HB5.out.size); clear hb d0 d1; have d0 := (AT.out _ HB6.out).1; have d1 := (AT.out _ HB6.out).2)
    | (go_at_call 10; (with_reducible refine (known_nil i j _).mono ?_); rintro e w7 ⟨rfl, hb⟩; have HB7 : Hid (Below w0.heap.size w0 w7) := HB6.out.trans (hb.mono HB6.out.size); clear hb))
  go_ret
  exact ⟨rfl, HW.out.1.trans (HB7.out.mono (by have := HW.out.2.1; omega))⟩
end Go.Proofs.YthmcdoakfmlecaaGreatDoor
