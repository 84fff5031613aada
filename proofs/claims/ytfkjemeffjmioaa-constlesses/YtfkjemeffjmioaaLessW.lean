import Derived.Test.YtfkjemeffjmioaaLs3
namespace Go.Proofs.Ytfkjemeffjmioaa
open Go.ChangeShapes Go.WideShapes Go.ChangeAt Go.RowKit
set_option linter.unusedVariables false

theorem rgt_cases {x : Vl} (h : rgt x = true) : (x.k = 1 ∧ x.i = 0 ∧ x.s.data.toList = []) ∨ (x.k = 2 ∧ x.b = false ∧ x.s.data.toList = []) ∨ (x.k = 3 ∧ x.b = false ∧ x.i = 0) := by
  unfold rgt at h
  rw [Lib.toList_data] at h
  simp only [Bool.or_eq_true, Bool.and_eq_true, beq_iff_eq, List.isEmpty_iff, Bool.not_eq_true'] at h
  rcases h with (⟨⟨h1, h2⟩, h3⟩ | ⟨⟨h1, h2⟩, h3⟩) | ⟨⟨h1, h2⟩, h3⟩
  · exact .inl ⟨h1, h2, h3⟩
  · exact .inr (.inl ⟨h1, h2, h3⟩)
  · exact .inr (.inr ⟨h1, h2, h3⟩)

theorem less_same (x y : Vl) : lsV x y (cmpV x y) = lsV x y (ordV x y) := by
  unfold lsV
  by_cases hx : rgt x = true
  · by_cases hy : rgt y = true
    · by_cases hk : x.k = y.k
      · have : decide (cmpV x y < 0) = decide (ordV x y < 0) := by
          unfold cmpV ordV
          by_cases hs : sme x y = true
          · rw [if_pos hs, if_pos hs]
          · rw [if_neg hs, if_neg hs]
            rcases rgt_cases hx with ⟨h1, h2, h3⟩ | ⟨h1, h2, h3⟩ | ⟨h1, h2, h3⟩
            · rw [if_pos h1]
              cases hb : y.b with
              | true => simp [h1]
              | false => simp [h1]
            · rcases rgt_cases hy with ⟨g1, g2, g3⟩ | ⟨g1, g2, g3⟩ | ⟨g1, g2, g3⟩
              · omega
              · rw [if_neg (show ¬ x.k = 1 by omega), h3, g3]
                by_cases h : x.i < y.i
                · have e : ci x.i y.i = -1 := by unfold ci; rw [if_pos h]
                  have c : (x.k = 2 ∧ x.i < y.i) ∨ (x.k = 3 ∧ bfr [] [] = true) ∨ (x.k = 1 ∧ y.b = true) := .inl ⟨h1, h⟩
                  rw [if_pos c, e]; rfl
                · have c : ¬ ((x.k = 2 ∧ x.i < y.i) ∨ (x.k = 3 ∧ bfr [] [] = true) ∨ (x.k = 1 ∧ y.b = true)) := by
                    rintro (⟨_, h'⟩ | ⟨h', _⟩ | ⟨h', _⟩) <;> omega
                  rw [if_neg c]
                  by_cases h' : y.i < x.i
                  · have e : ci x.i y.i = 1 := by unfold ci; rw [if_neg h, if_pos h']
                    rw [e]; rfl
                  · have e : ci x.i y.i = 0 := by unfold ci; rw [if_neg h, if_neg h']
                    rw [e]; simp [Lib.compareBytes]
              · omega
            · rcases rgt_cases hy with ⟨g1, g2, g3⟩ | ⟨g1, g2, g3⟩ | ⟨g1, g2, g3⟩
              · omega
              · omega
              · have e : ci x.i y.i = 0 := by rw [h3, g3]; rfl
                rw [if_neg (show ¬ x.k = 1 by omega), if_pos e, bfr_cmp]
                by_cases h : Lib.compareBytes x.s.data.toList y.s.data.toList < 0
                · have c : (x.k = 2 ∧ x.i < y.i) ∨ (x.k = 3 ∧ decide (Lib.compareBytes x.s.data.toList y.s.data.toList < 0) = true) ∨ (x.k = 1 ∧ y.b = true) := .inr (.inl ⟨h1, by simp [h]⟩)
                  rw [if_pos c]; simp [h]
                · have c : ¬ ((x.k = 2 ∧ x.i < y.i) ∨ (x.k = 3 ∧ decide (Lib.compareBytes x.s.data.toList y.s.data.toList < 0) = true) ∨ (x.k = 1 ∧ y.b = true)) := by
                    rintro (⟨h', _⟩ | ⟨_, h'⟩ | ⟨h', _⟩)
                    · omega
                    · exact h (of_decide_eq_true h')
                    · omega
                  rw [if_neg c]; simp [h]
        rw [this]
      · rw [beq_eq_false_iff_ne.2 hk]; simp
    · rw [Bool.not_eq_true] at hy; rw [hy]; simp
  · rw [Bool.not_eq_true] at hx; rw [hx]; simp

set_option maxRecDepth 1000000 in
set_option maxHeartbeats 8000000 in
theorem constLesses_walk (x y : Vl) (w : World) (hx : x.s.size ≤ 140737488351232) (hy : y.s.size ≤ 140737488351232) :
    Calls Try.prog 4 #[x.v, y.v] w fun e w' => e = .returned (.bool true) ∧ Below w.heap.size w w' := by
  obtain ⟨w2, e2, hw, hs2, B0, B1⟩ := bx2 w #[.int .u8 x.k, .bool x.b, .int .i64 x.i, .string x.s] #[.int .u8 y.k, .bool y.b, .int .i64 y.i, .string y.s] 26 26
  have HB0 : Hid (Below w.heap.size w w2) := hw
  have HE2 : Hid ((w.alloc (.cells #[.int .u8 x.k, .bool x.b, .int .i64 x.i, .string x.s] 26)).alloc (.cells #[.int .u8 y.k, .bool y.b, .int .i64 y.i, .string y.s] 26) = w2) := e2
  obtain ⟨X, F, hX, hF, onto⟩ := class_of (fun v => Below w2.heap.size w2 v) (Below.refl _ w2)
  have HF : Hid (∀ y, Below w2.heap.size w2 (F y)) := hF
  have HO : Hid (∀ v, Below w2.heap.size w2 v → ∃ x, v = F x) := fun v h => by obtain ⟨x, hx⟩ := onto v h; exact ⟨x, hx.symm⟩
  have f0 : ∀ v, (F v).cell? ⟨w.heap.size, 0, none⟩ = some (.int .u8 x.k) := fun v => (B0.below (hF v) B0.lt).cell 0
  have f1 : ∀ v, (F v).cell? ⟨w.heap.size, 1, none⟩ = some (.bool x.b) := fun v => (B0.below (hF v) B0.lt).cell 1
  have f2 : ∀ v, (F v).cell? ⟨w.heap.size, 2, none⟩ = some (.int .i64 x.i) := fun v => (B0.below (hF v) B0.lt).cell 2
  have f3 : ∀ v, (F v).cell? ⟨w.heap.size, 3, none⟩ = some (.string x.s) := fun v => (B0.below (hF v) B0.lt).cell 3
  have g0 : ∀ v, (F v).cell? ⟨w.heap.size + 1, 0, none⟩ = some (.int .u8 y.k) := fun v => (B1.below (hF v) B1.lt).cell 0
  have g1 : ∀ v, (F v).cell? ⟨w.heap.size + 1, 1, none⟩ = some (.bool y.b) := fun v => (B1.below (hF v) B1.lt).cell 1
  have g2 : ∀ v, (F v).cell? ⟨w.heap.size + 1, 2, none⟩ = some (.int .i64 y.i) := fun v => (B1.below (hF v) B1.lt).cell 2
  have g3 : ∀ v, (F v).cell? ⟨w.heap.size + 1, 3, none⟩ = some (.string y.s) := fun v => (B1.below (hF v) B1.lt).cell 3
  clear hF onto e2 hw hs2 B0 B1
  obtain ⟨p, hp⟩ : ∃ p, lsV x y (cmpV x y) = p := ⟨_, rfl⟩
  have HP : Hid (lsV x y (cmpV x y) = p) := hp
  have HR : Hid (lsV x y (ordV x y) = p) := by unfold Hid; rw [← less_same, hp]
  have HL : Hid (∀ v, Calls Try.prog 7 #[.agg #[.int .u8 x.k, .bool x.b, .int .i64 x.i, .string x.s], .agg #[.int .u8 y.k, .bool y.b, .int .i64 y.i, .string y.s]] v fun e w' => e = .returned (.bool p) ∧ Below v.heap.size v w') := fun v => by rw [← hp]; exact less_any x y v
  have HM : Hid (∀ v, Calls Try.prog 8 #[.agg #[.int .u8 x.k, .bool x.b, .int .i64 x.i, .string x.s], .agg #[.int .u8 y.k, .bool y.b, .int .i64 y.i, .string y.s]] v fun e w' => e = .returned (.bool p) ∧ Below v.heap.size v w') := fun v => by rw [← HR.out]; exact rLess_any x y v hx hy
  clear hp
  show Calls Try.prog 4 #[.agg #[.int .u8 x.k, .bool x.b, .int .i64 x.i, .string x.s], .agg #[.int .u8 y.k, .bool y.b, .int .i64 y.i, .string y.s]] w _
  go_enter Try.func4, Try.ntmps4
  go_upto_region 1 with fail
  rw [HE2.out]
  refine region_class F (by kernel_rfl) (by kernel_rfl) (by obtain ⟨x, hx⟩ := HO.out _ (Below.refl _ _).drew; exact ⟨x, hx.symm⟩) ?_
  repeat (go_big_quiet_step (first
    | (go_at_call 7; (with_reducible refine (HL.out _).mono ?_); rintro e w5 ⟨rfl, hb5⟩; exact ⟨rfl, HO.out _ ((HF.out _).trans (hb5.mono (HF.out _).size))⟩)
    | (go_at_call 8; (with_reducible refine (HM.out _).mono ?_); rintro e w5 ⟨rfl, hb5⟩; exact ⟨rfl, HO.out _ ((HF.out _).trans (hb5.mono (HF.out _).size))⟩)))
  refine wpQuiet_nil ?_
  rintro _ ⟨nq, rfl⟩
  go_wp2
  go_ret
  exact ⟨rfl, HB0.out.trans ((HF.out _).mono HB0.out.size)⟩
end Go.Proofs.Ytfkjemeffjmioaa
