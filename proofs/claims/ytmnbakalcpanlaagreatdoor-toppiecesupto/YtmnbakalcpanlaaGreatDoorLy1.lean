import Derived.Test.YtmnbakalcpanlaaGreatDoorLy0
namespace Go.Proofs.YtmnbakalcpanlaaGreatDoor
open Go.ChangeShapes Go.WideShapes Go.ChangeAt Go.RowKit
set_option linter.unusedVariables false
set_option linter.unusedSimpArgs false

/-- an item as the code tells it: its value, the place behind it, is it a byte, is it a bad byte -/
def itV (p : Nat) : Option Itm → Value
  | some i => .agg #[.int .i64 i.v, .int .i64 ((p + i.n : Nat) : Int), .bool i.e, .bool i.b]
  | none => .agg #[.int .i64 0, .int .i64 0, .bool false, .bool false]
theorem cod_none {s : ByteArray} {k f c b : Nat} (h : dg2 s k c b = none) : cod s k f c b = none := by
  unfold dg2 at h
  unfold cod
  by_cases h0 : s.size < k + c
  · rw [if_pos h0]
  · rw [if_neg h0] at h ⊢; rw [h]
theorem cod_some {s : ByteArray} {k f c b v : Nat} (h : dg2 s k c b = some v) : cod s k f c b = if (c < 4 ∧ 255 < v) ∨ 1114111 < v ∨ (4 ≤ c ∧ 55296 ≤ v ∧ v ≤ 57343) then none else some ⟨f + c, v, decide (c < 4), false⟩ := by
  unfold dg2 at h
  unfold cod
  by_cases h0 : s.size < k + c
  · rw [if_pos h0] at h; cases h
  · rw [if_neg h0] at h ⊢; rw [h]

set_option maxRecDepth 100000 in
set_option maxHeartbeats 2000000 in
theorem byteAt_x (s : ByteArray) (p : Nat) (hs : s.size ≤ 4294967280) (hk : p + 2 ≤ s.size) (w : World) :
    Calls Tryz.prog 88 #[.string s, .int .i64 ((p + 2 : Nat) : Int), .int .i64 2, .int .i64 16] w fun e w' => e = .returned (.tuple #[itV p (cod s (p + 2) 2 2 16), .bool (cod s (p + 2) 2 2 16).isSome]) ∧ Below w.heap.size w w' := by
  have HD : Hid (∀ v, Calls Tryz.prog 94 #[.string s, .int .i64 ((p + 2 : Nat) : Int), .int .i64 2, .int .i64 16] v fun e w' => e = .returned (.tuple #[.int .i64 (((dg2 s (p + 2) 2 16).getD 0 : Nat) : Int), .bool (dg2 s (p + 2) 2 16).isSome]) ∧ w' = v) := digitsAt_16 s (p + 2) 2 hs hk (by decide)
  obtain ⟨k, hkk⟩ : ∃ k, p + 2 = k := ⟨_, rfl⟩
  rw [hkk] at HD ⊢
  cases hd : dg2 s k 2 16 with
  | none =>
    rw [hd] at HD
    simp only [Option.getD_none, Option.isSome_none] at HD
    rw [cod_none hd]
    clear hd
    go_enter Tryz.func88, Tryz.ntmps88
    go_wp2_with (go_at_call 94; (with_reducible refine (HD.out _).mono ?_); rintro e w3 ⟨rfl, hw3⟩; subst hw3)
    refine bodyPost_ret (v := .tuple #[.agg #[.int .i64 0, .int .i64 0, .bool false, .bool false], .bool false]) (by simp [results, Tryz.results88, go_sem]) rfl ⟨rfl, by go_grown⟩
  | some v =>
    rw [hd] at HD
    simp only [Option.getD_some, Option.isSome_some] at HD
    rw [cod_some hd]
    clear hd
    by_cases hv : 255 < v
    · rw [if_pos (.inl ⟨by decide, hv⟩)]
      have hv' : (255 : Int) < (v : Int) := by omega
      go_enter Tryz.func88, Tryz.ntmps88
      go_wp2_with (go_at_call 94; (with_reducible refine (HD.out _).mono ?_); rintro e w3 ⟨rfl, hw3⟩; subst hw3)
      refine bodyPost_ret (v := .tuple #[.agg #[.int .i64 0, .int .i64 0, .bool false, .bool false], .bool false]) (by simp [results, Tryz.results88, go_sem]) rfl ⟨rfl, by go_grown⟩
    · rw [if_neg (by omega)]
      have hv' : ¬ (255 : Int) < (v : Int) := by omega
      go_enter Tryz.func88, Tryz.ntmps88
      go_wp2_with (go_at_call 94; (with_reducible refine (HD.out _).mono ?_); rintro e w3 ⟨rfl, hw3⟩; subst hw3)
      refine bodyPost_ret (v := .tuple #[.agg #[.int .i64 v, .int .i64 ((k : Int) + 2), .bool true, .bool false], .bool true]) (by simp [results, Tryz.results88, go_sem]) rfl ⟨by rw [← hkk]; simp [itV]; omega, by go_grown⟩

set_option maxRecDepth 100000 in
set_option maxHeartbeats 2000000 in
theorem byteAt_o (s : ByteArray) (p : Nat) (hs : s.size ≤ 4294967280) (hk : p + 1 ≤ s.size) (w : World) :
    Calls Tryz.prog 88 #[.string s, .int .i64 ((p + 1 : Nat) : Int), .int .i64 3, .int .i64 8] w fun e w' => e = .returned (.tuple #[itV p (cod s (p + 1) 1 3 8), .bool (cod s (p + 1) 1 3 8).isSome]) ∧ Below w.heap.size w w' := by
  have HD : Hid (∀ v, Calls Tryz.prog 94 #[.string s, .int .i64 ((p + 1 : Nat) : Int), .int .i64 3, .int .i64 8] v fun e w' => e = .returned (.tuple #[.int .i64 (((dg2 s (p + 1) 3 8).getD 0 : Nat) : Int), .bool (dg2 s (p + 1) 3 8).isSome]) ∧ w' = v) := digitsAt_8 s (p + 1) 3 hs hk (by decide)
  obtain ⟨k, hkk⟩ : ∃ k, p + 1 = k := ⟨_, rfl⟩
  rw [hkk] at HD ⊢
  cases hd : dg2 s k 3 8 with
  | none =>
    rw [hd] at HD
    simp only [Option.getD_none, Option.isSome_none] at HD
    rw [cod_none hd]
    clear hd
    go_enter Tryz.func88, Tryz.ntmps88
    go_wp2_with (go_at_call 94; (with_reducible refine (HD.out _).mono ?_); rintro e w3 ⟨rfl, hw3⟩; subst hw3)
    refine bodyPost_ret (v := .tuple #[.agg #[.int .i64 0, .int .i64 0, .bool false, .bool false], .bool false]) (by simp [results, Tryz.results88, go_sem]) rfl ⟨rfl, by go_grown⟩
  | some v =>
    rw [hd] at HD
    simp only [Option.getD_some, Option.isSome_some] at HD
    rw [cod_some hd]
    clear hd
    by_cases hv : 255 < v
    · rw [if_pos (.inl ⟨by decide, hv⟩)]
      have hv' : (255 : Int) < (v : Int) := by omega
      go_enter Tryz.func88, Tryz.ntmps88
      go_wp2_with (go_at_call 94; (with_reducible refine (HD.out _).mono ?_); rintro e w3 ⟨rfl, hw3⟩; subst hw3)
      refine bodyPost_ret (v := .tuple #[.agg #[.int .i64 0, .int .i64 0, .bool false, .bool false], .bool false]) (by simp [results, Tryz.results88, go_sem]) rfl ⟨rfl, by go_grown⟩
    · rw [if_neg (by omega)]
      have hv' : ¬ (255 : Int) < (v : Int) := by omega
      go_enter Tryz.func88, Tryz.ntmps88
      go_wp2_with (go_at_call 94; (with_reducible refine (HD.out _).mono ?_); rintro e w3 ⟨rfl, hw3⟩; subst hw3)
      refine bodyPost_ret (v := .tuple #[.agg #[.int .i64 v, .int .i64 ((k : Int) + 3), .bool true, .bool false], .bool true]) (by simp [results, Tryz.results88, go_sem]) rfl ⟨by rw [← hkk]; simp [itV]; omega, by go_grown⟩

set_option maxRecDepth 100000 in
set_option maxHeartbeats 2000000 in
theorem runeAt_u (s : ByteArray) (p : Nat) (hs : s.size ≤ 4294967280) (hk : p + 2 ≤ s.size) (w : World) :
    Calls Tryz.prog 89 #[.string s, .int .i64 ((p + 2 : Nat) : Int), .int .i64 4] w fun e w' => e = .returned (.tuple #[itV p (cod s (p + 2) 2 4 16), .bool (cod s (p + 2) 2 4 16).isSome]) ∧ Below w.heap.size w w' := by
  have HD : Hid (∀ v, Calls Tryz.prog 94 #[.string s, .int .i64 ((p + 2 : Nat) : Int), .int .i64 4, .int .i64 16] v fun e w' => e = .returned (.tuple #[.int .i64 (((dg2 s (p + 2) 4 16).getD 0 : Nat) : Int), .bool (dg2 s (p + 2) 4 16).isSome]) ∧ w' = v) := digitsAt_16 s (p + 2) 4 hs hk (by decide)
  obtain ⟨k, hkk⟩ : ∃ k, p + 2 = k := ⟨_, rfl⟩
  rw [hkk] at HD ⊢
  cases hd : dg2 s k 4 16 with
  | none =>
    rw [hd] at HD
    simp only [Option.getD_none, Option.isSome_none] at HD
    rw [cod_none hd]
    clear hd
    go_enter Tryz.func89, Tryz.ntmps89
    go_wp2_with (go_at_call 94; (with_reducible refine (HD.out _).mono ?_); rintro e w3 ⟨rfl, hw3⟩; subst hw3)
    refine bodyPost_ret (v := .tuple #[.agg #[.int .i64 0, .int .i64 0, .bool false, .bool false], .bool false]) (by simp [results, Tryz.results89, go_sem]) rfl ⟨rfl, by go_grown⟩
  | some v =>
    rw [hd] at HD
    simp only [Option.getD_some, Option.isSome_some] at HD
    rw [cod_some hd]
    clear hd
    by_cases hv : 1114111 < v
    · rw [if_pos (.inr (.inl hv))]
      have hv' : (1114111 : Int) < (v : Int) := by omega
      go_enter Tryz.func89, Tryz.ntmps89
      go_wp2_with (go_at_call 94; (with_reducible refine (HD.out _).mono ?_); rintro e w3 ⟨rfl, hw3⟩; subst hw3)
      refine bodyPost_ret (v := .tuple #[.agg #[.int .i64 0, .int .i64 0, .bool false, .bool false], .bool false]) (by simp [results, Tryz.results89, go_sem]) rfl ⟨rfl, by go_grown⟩
    · have hv' : ¬ (1114111 : Int) < (v : Int) := by omega
      by_cases hr : 55296 ≤ v ∧ v ≤ 57343
      · rw [if_pos (.inr (.inr ⟨by decide, hr⟩))]
        have HV : Hid (∀ u, Calls Tryz.prog 95 #[.int .i32 (v : Int)] u fun e w' => e = .returned (.bool false) ∧ w' = u) := fun u => by
          have h := Tryz.utf8_ValidRune (v : Int) u
          have e : Lib.validRune (v : Int) = false := by unfold Lib.validRune; simp; omega
          rw [e] at h; exact h
        clear hr
        go_enter Tryz.func89, Tryz.ntmps89
        go_wp2_with (first | (go_at_call 94; (with_reducible refine (HD.out _).mono ?_); rintro e w3 ⟨rfl, hw3⟩; subst hw3) | (go_at_call 95; (with_reducible refine (HV.out _).mono ?_); rintro e w4 ⟨rfl, hw4⟩; subst hw4))
        refine bodyPost_ret (v := .tuple #[.agg #[.int .i64 0, .int .i64 0, .bool false, .bool false], .bool false]) (by simp [results, Tryz.results89, go_sem]) rfl ⟨rfl, by go_grown⟩
      · rw [if_neg (by omega)]
        have HV : Hid (∀ u, Calls Tryz.prog 95 #[.int .i32 (v : Int)] u fun e w' => e = .returned (.bool true) ∧ w' = u) := fun u => by
          have h := Tryz.utf8_ValidRune (v : Int) u
          have e : Lib.validRune (v : Int) = true := by unfold Lib.validRune; simp; omega
          rw [e] at h; exact h
        clear hr
        go_enter Tryz.func89, Tryz.ntmps89
        go_wp2_with (first | (go_at_call 94; (with_reducible refine (HD.out _).mono ?_); rintro e w3 ⟨rfl, hw3⟩; subst hw3) | (go_at_call 95; (with_reducible refine (HV.out _).mono ?_); rintro e w4 ⟨rfl, hw4⟩; subst hw4))
        refine bodyPost_ret (v := .tuple #[.agg #[.int .i64 v, .int .i64 ((k : Int) + 4), .bool false, .bool false], .bool true]) (by simp [results, Tryz.results89, go_sem]) rfl ⟨by rw [← hkk]; simp [itV]; omega, by go_grown⟩

set_option maxRecDepth 100000 in
set_option maxHeartbeats 2000000 in
theorem runeAt_U (s : ByteArray) (p : Nat) (hs : s.size ≤ 4294967280) (hk : p + 2 ≤ s.size) (w : World) :
    Calls Tryz.prog 89 #[.string s, .int .i64 ((p + 2 : Nat) : Int), .int .i64 8] w fun e w' => e = .returned (.tuple #[itV p (cod s (p + 2) 2 8 16), .bool (cod s (p + 2) 2 8 16).isSome]) ∧ Below w.heap.size w w' := by
  have HD : Hid (∀ v, Calls Tryz.prog 94 #[.string s, .int .i64 ((p + 2 : Nat) : Int), .int .i64 8, .int .i64 16] v fun e w' => e = .returned (.tuple #[.int .i64 (((dg2 s (p + 2) 8 16).getD 0 : Nat) : Int), .bool (dg2 s (p + 2) 8 16).isSome]) ∧ w' = v) := digitsAt_16 s (p + 2) 8 hs hk (by decide)
  obtain ⟨k, hkk⟩ : ∃ k, p + 2 = k := ⟨_, rfl⟩
  rw [hkk] at HD ⊢
  cases hd : dg2 s k 8 16 with
  | none =>
    rw [hd] at HD
    simp only [Option.getD_none, Option.isSome_none] at HD
    rw [cod_none hd]
    clear hd
    go_enter Tryz.func89, Tryz.ntmps89
    go_wp2_with (go_at_call 94; (with_reducible refine (HD.out _).mono ?_); rintro e w3 ⟨rfl, hw3⟩; subst hw3)
    refine bodyPost_ret (v := .tuple #[.agg #[.int .i64 0, .int .i64 0, .bool false, .bool false], .bool false]) (by simp [results, Tryz.results89, go_sem]) rfl ⟨rfl, by go_grown⟩
  | some v =>
    rw [hd] at HD
    simp only [Option.getD_some, Option.isSome_some] at HD
    rw [cod_some hd]
    clear hd
    by_cases hv : 1114111 < v
    · rw [if_pos (.inr (.inl hv))]
      have hv' : (1114111 : Int) < (v : Int) := by omega
      go_enter Tryz.func89, Tryz.ntmps89
      go_wp2_with (go_at_call 94; (with_reducible refine (HD.out _).mono ?_); rintro e w3 ⟨rfl, hw3⟩; subst hw3)
      refine bodyPost_ret (v := .tuple #[.agg #[.int .i64 0, .int .i64 0, .bool false, .bool false], .bool false]) (by simp [results, Tryz.results89, go_sem]) rfl ⟨rfl, by go_grown⟩
    · have hv' : ¬ (1114111 : Int) < (v : Int) := by omega
      by_cases hr : 55296 ≤ v ∧ v ≤ 57343
      · rw [if_pos (.inr (.inr ⟨by decide, hr⟩))]
        have HV : Hid (∀ u, Calls Tryz.prog 95 #[.int .i32 (v : Int)] u fun e w' => e = .returned (.bool false) ∧ w' = u) := fun u => by
          have h := Tryz.utf8_ValidRune (v : Int) u
          have e : Lib.validRune (v : Int) = false := by unfold Lib.validRune; simp; omega
          rw [e] at h; exact h
        clear hr
        go_enter Tryz.func89, Tryz.ntmps89
        go_wp2_with (first | (go_at_call 94; (with_reducible refine (HD.out _).mono ?_); rintro e w3 ⟨rfl, hw3⟩; subst hw3) | (go_at_call 95; (with_reducible refine (HV.out _).mono ?_); rintro e w4 ⟨rfl, hw4⟩; subst hw4))
        refine bodyPost_ret (v := .tuple #[.agg #[.int .i64 0, .int .i64 0, .bool false, .bool false], .bool false]) (by simp [results, Tryz.results89, go_sem]) rfl ⟨rfl, by go_grown⟩
      · rw [if_neg (by omega)]
        have HV : Hid (∀ u, Calls Tryz.prog 95 #[.int .i32 (v : Int)] u fun e w' => e = .returned (.bool true) ∧ w' = u) := fun u => by
          have h := Tryz.utf8_ValidRune (v : Int) u
          have e : Lib.validRune (v : Int) = true := by unfold Lib.validRune; simp; omega
          rw [e] at h; exact h
        clear hr
        go_enter Tryz.func89, Tryz.ntmps89
        go_wp2_with (first | (go_at_call 94; (with_reducible refine (HD.out _).mono ?_); rintro e w3 ⟨rfl, hw3⟩; subst hw3) | (go_at_call 95; (with_reducible refine (HV.out _).mono ?_); rintro e w4 ⟨rfl, hw4⟩; subst hw4))
        refine bodyPost_ret (v := .tuple #[.agg #[.int .i64 v, .int .i64 ((k : Int) + 8), .bool false, .bool false], .bool true]) (by simp [results, Tryz.results89, go_sem]) rfl ⟨by rw [← hkk]; simp [itV]; omega, by go_grown⟩
end Go.Proofs.YtmnbakalcpanlaaGreatDoor
