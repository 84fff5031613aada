import Derived.Test.YtfkjemeffjmioaaLs1
namespace Go.Proofs.Ytfkjemeffjmioaa
open Go.ChangeShapes Go.WideShapes Go.ChangeAt Go.RowKit
set_option linter.unusedVariables false

/-- are two values the same? -/
def sme (x y : Vl) : Bool := x.k == y.k && (x.b == y.b && (x.i == y.i && x.s.toList == y.s.toList))
/-- the code's compare -/
def cmpV (x y : Vl) : Int := if sme x y then 0 else if x.k = 1 then (if y.b then -1 else 1) else (if ci x.i y.i = 0 then Lib.compareBytes x.s.data.toList y.s.data.toList else ci x.i y.i)
/-- the reference's order -/
def ordV (x y : Vl) : Int := if sme x y then 0 else if (x.k = 2 ∧ x.i < y.i) ∨ (x.k = 3 ∧ bfr x.s.data.toList y.s.data.toList = true) ∨ (x.k = 1 ∧ y.b = true) then -1 else 1

set_option maxRecDepth 1000000 in
set_option maxHeartbeats 8000000 in
theorem compare_any (x y : Vl) (w : World) :
    Calls Try.prog 12 #[x.v, y.v] w fun e w' => e = .returned (.int .i64 (cmpV x y)) ∧ Below w.heap.size w w' := by
  obtain ⟨k, b, i, s⟩ := x
  obtain ⟨l, c, j, t⟩ := y
  show Calls Try.prog 12 #[.agg #[.int .u8 k, .bool b, .int .i64 i, .string s], .agg #[.int .u8 l, .bool c, .int .i64 j, .string t]] w _
  obtain ⟨w2, e2, hw, hs2, B0, B1⟩ := bx2 w #[.int .u8 k, .bool b, .int .i64 i, .string s] #[.int .u8 l, .bool c, .int .i64 j, .string t] 26 26
  have HB0 : Hid (Below w.heap.size w w2) := hw
  have HS2 : Hid (w2.heap.size = w.heap.size + 2) := hs2
  have HE2 : Hid ((w.alloc (.cells #[.int .u8 k, .bool b, .int .i64 i, .string s] 26)).alloc (.cells #[.int .u8 l, .bool c, .int .i64 j, .string t] 26) = w2) := e2
  have x0 := B0.cell 0
  have x1 := B0.cell 1
  have x2 := B0.cell 2
  have x3 := B0.cell 3
  have y0 := B1.cell 0
  have y1 := B1.cell 1
  have y2 := B1.cell 2
  have y3 := B1.cell 3
  have n0 := B0.lt
  have n1 := B1.lt
  simp at x0 x1 x2 x3 y0 y1 y2 y3
  clear e2 hw hs2 B0 B1
  obtain ⟨p, hp⟩ : ∃ p, sme ⟨k, b, i, s⟩ ⟨l, c, j, t⟩ = p := ⟨_, rfl⟩
  have q : ∀ v, (Op.equalIn 10000 26 (.agg #[.int .u8 k, .bool b, .int .i64 i, .string s]) (.agg #[.int .u8 l, .bool c, .int .i64 j, .string t])).run Try.prog v = .ok p v := fun v => by rw [val_eqIn]; rw [← hp]; rfl
  have HP : Hid (sme ⟨k, b, i, s⟩ ⟨l, c, j, t⟩ = p) := hp
  clear hp
  cases p with
  | true =>
    go_enter Try.func12, Try.ntmps12
    go_upto_region 1 with fail
    rw [HE2.out]
    go_wp2
    go_ret
    exact ⟨by unfold cmpV; rw [HP.out]; rfl, HB0.out⟩
  | false =>
    by_cases h1 : k = 1
    · subst h1
      cases c with
      | true =>
        go_enter Try.func12, Try.ntmps12
        go_upto_region 1 with fail
        rw [HE2.out]
        go_wp2
        go_ret
        exact ⟨by unfold cmpV; rw [HP.out]; rfl, HB0.out⟩
      | false =>
        go_enter Try.func12, Try.ntmps12
        go_upto_region 1 with fail
        rw [HE2.out]
        go_wp2
        go_ret
        exact ⟨by unfold cmpV; rw [HP.out]; rfl, HB0.out⟩
    · obtain ⟨u, hu⟩ : ∃ u, ci i j = u := ⟨_, rfl⟩
      obtain ⟨v, hv⟩ : ∃ v, Lib.compareBytes s.data.toList t.data.toList = v := ⟨_, rfl⟩
      have HU : Hid (ci i j = u) := hu
      have HV : Hid (Lib.compareBytes s.data.toList t.data.toList = v) := hv
      obtain ⟨r, hr⟩ : ∃ r, (if u = 0 then v else u) = r := ⟨_, rfl⟩
      have HR : Hid ((if u = 0 then v else u) = r) := hr
      clear hu hv hr
      go_enter Try.func12, Try.ntmps12
      go_upto_region 1 with fail
      rw [HE2.out]
      go_upto_region 7 with fail
      go_region_held3 (fun w' => w'.cell? ⟨w.heap.size, 2, none⟩ = some (.int .i64 i) ∧ w'.cell? ⟨w.heap.size, 3, none⟩ = some (.string s) ∧ w'.cell? ⟨w.heap.size + 1, 2, none⟩ = some (.int .i64 j) ∧ w'.cell? ⟨w.heap.size + 1, 3, none⟩ = some (.string t))
        (first
          | go_keep
          | (refine ⟨?_, ?_, ?_, ?_⟩ <;> assumption))
        (first
          | (go_at_call 21; (refine (icmp_any _ _ _).mono ?_); rintro e w3 ⟨rfl, rfl⟩; rw [HU.out])
          | (go_at_call 22; (refine (Try.strings_Compare _ _ _).mono ?_); rintro e w3 ⟨rfl, rfl⟩; rw [HV.out])
          | (go_at_call 20; (refine (or_any u v _ _ ?_ ?_).mono ?_); (case refine_1 => simp); (case refine_2 => simp); rintro e w3 ⟨rfl, rfl⟩; rw [HR.out]))
      go_wp2
      go_ret
      refine ⟨?_, HB0.out.trans ((((Below.refl _ _).alloc (Nat.le_refl _) _).drew).mono HB0.out.size)⟩
      unfold cmpV
      rw [HP.out]
      simp only [Bool.false_eq_true, if_false]
      rw [if_neg h1, HU.out, HV.out, HR.out]
      rfl

set_option maxRecDepth 1000000 in
set_option maxHeartbeats 8000000 in
theorem order_any (x y : Vl) (w : World) (hx : x.s.size ≤ 140737488351232) (hy : y.s.size ≤ 140737488351232) :
    Calls Try.prog 14 #[x.v, y.v] w fun e w' => e = .returned (.int .i64 (ordV x y)) ∧ Below w.heap.size w w' := by
  obtain ⟨k, b, i, s⟩ := x
  obtain ⟨l, c, j, t⟩ := y
  show Calls Try.prog 14 #[.agg #[.int .u8 k, .bool b, .int .i64 i, .string s], .agg #[.int .u8 l, .bool c, .int .i64 j, .string t]] w _
  obtain ⟨w2, e2, hw, hs2, B0, B1⟩ := bx2 w #[.int .u8 k, .bool b, .int .i64 i, .string s] #[.int .u8 l, .bool c, .int .i64 j, .string t] 26 26
  have HB0 : Hid (Below w.heap.size w w2) := hw
  have HE2 : Hid ((w.alloc (.cells #[.int .u8 k, .bool b, .int .i64 i, .string s] 26)).alloc (.cells #[.int .u8 l, .bool c, .int .i64 j, .string t] 26) = w2) := e2
  have HX0 : Hid (Bx w2 w.heap.size #[.int .u8 k, .bool b, .int .i64 i, .string s] 26) := B0
  have HX1 : Hid (Bx w2 (w.heap.size + 1) #[.int .u8 l, .bool c, .int .i64 j, .string t] 26) := B1
  have x0 := B0.cell 0
  have x1 := B0.cell 1
  have x2 := B0.cell 2
  have x3 := B0.cell 3
  have y0 := B1.cell 0
  have y1 := B1.cell 1
  have y2 := B1.cell 2
  have y3 := B1.cell 3
  simp at x0 x1 x2 x3 y0 y1 y2 y3
  clear e2 hw hs2 B0 B1
  obtain ⟨p, hp⟩ : ∃ p, sme ⟨k, b, i, s⟩ ⟨l, c, j, t⟩ = p := ⟨_, rfl⟩
  have q : ∀ v, (Op.equalIn 10000 26 (.agg #[.int .u8 k, .bool b, .int .i64 i, .string s]) (.agg #[.int .u8 l, .bool c, .int .i64 j, .string t])).run Try.prog v = .ok p v := fun v => by rw [val_eqIn]; rw [← hp]; rfl
  have HP : Hid (sme ⟨k, b, i, s⟩ ⟨l, c, j, t⟩ = p) := hp
  clear hp
  cases p with
  | true =>
    go_enter Try.func14, Try.ntmps14
    go_upto_region 1 with fail
    rw [HE2.out]
    go_wp2
    go_ret
    exact ⟨by unfold ordV; rw [HP.out]; rfl, HB0.out⟩
  | false =>
    obtain ⟨f, hf⟩ : ∃ f, bfr s.data.toList t.data.toList = f := ⟨_, rfl⟩
    have HF : Hid (bfr s.data.toList t.data.toList = f) := hf
    have HO : Hid (ordV ⟨k, b, i, s⟩ ⟨l, c, j, t⟩ = if (k = 2 ∧ i < j) ∨ (k = 3 ∧ f = true) ∨ (k = 1 ∧ c = true) then -1 else 1) := by
      unfold Hid ordV; rw [HP.out, ← hf]; simp only [Bool.false_eq_true, if_false]
    have HC : Hid ((k = 2 ∧ i < j) ∨ (k = 2 ∧ ¬ i < j) ∨ (k = 3 ∧ f = true) ∨ (k = 3 ∧ f = false) ∨ (k = 1 ∧ c = true) ∨ (k = 1 ∧ c = false) ∨ (k ≠ 1 ∧ k ≠ 2 ∧ k ≠ 3)) := by
      unfold Hid; cases f <;> cases c <;> by_cases h1 : k = 1 <;> by_cases h2 : k = 2 <;> by_cases h3 : k = 3 <;> by_cases h4 : i < j <;> simp_all
    clear hf HP
    rcases HC.out with ⟨rfl, h1⟩ | ⟨rfl, h1⟩ | ⟨rfl, rfl⟩ | ⟨rfl, rfl⟩ | ⟨rfl, rfl⟩ | ⟨rfl, rfl⟩ | ⟨h1, h2, h3⟩
    all_goals clear HC
    all_goals go_enter Try.func14, Try.ntmps14
    all_goals go_upto_region 1 with fail
    all_goals rw [HE2.out]
    all_goals go_wp2_with (go_at_call 23; (refine (before_any s t _ hx hy).mono ?_); rintro e w3 ⟨rfl, hb3⟩; rw [HF.out]; have HB3 : Hid (Below w2.heap.size w2 w3) := hb3; have u0 := (HX0.out.below hb3 HX0.out.lt).cell 0; have u1 := (HX1.out.below hb3 HX1.out.lt).cell 1; have u2 := (HX0.out.below hb3 HX0.out.lt).cell 2; have u3 := (HX1.out.below hb3 HX1.out.lt).cell 2; simp at u0 u1 u2 u3; clear hb3)
    all_goals go_ret
    all_goals refine ⟨?_, by first | exact HB0.out | exact HB0.out.trans (HB3.out.mono HB0.out.size)⟩
    all_goals rw [HO.out]
    · rw [if_pos (by simp [h1])]; rfl
    · rw [if_neg (by rintro (⟨_, h⟩ | ⟨h, _⟩ | ⟨h, _⟩) <;> omega)]; rfl
    · rw [if_pos (by simp)]; rfl
    · rw [if_neg (by simp)]; rfl
    · rw [if_pos (by simp)]; rfl
    · rw [if_neg (by simp)]; rfl
    · rw [if_neg (by rintro (⟨h, _⟩ | ⟨h, _⟩ | ⟨h, _⟩) <;> omega)]; rfl
end Go.Proofs.Ytfkjemeffjmioaa
