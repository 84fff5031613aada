import Derived.Test.YtnaipmgdipflgaaGreatDoorRlB
namespace Go.Proofs.YtnaipmgdipflgaaGreatDoor
open Go.ChangeShapes Go.WideShapes Go.ChangeAt Go.RowKit
set_option linter.unusedVariables false
set_option linter.unusedSimpArgs false

set_option maxRecDepth 1000000 in
set_option maxHeartbeats 8000000 in
theorem rPiece_run (s : ByteArray) (p : Nat) (hs : s.size ≤ 4294967280) (hp : p < s.size) (n : Nat) (hn : (s[p]'hp).toNat = n) (hP : Pn s p n) (hl : isL (rn s p) = false) (h : 48 ≤ n ∧ n ≤ 57) (w : World) (hT : Lt w) :
    Calls Tryz.prog 40 #[.string s, .int .i64 (p : Int)] w fun e w' => e = .returned (pcR (pce s p)) ∧ Below w.heap.size w w' := by
  have hbt : bt s p = n := by rw [bt_in hp, hn]
  have hQ : pce s p = ruP s p := by unfold pce; rw [if_neg (by rw [hbt, hP.b]; simp), if_neg hP.l, if_neg hP.c, if_neg (by rw [hl]; simp), if_pos (by rw [hbt]; exact h)]
  rw [hQ]
  have hp' : (p : Int) < (s.size : Int) := by omega
  have H0 : Hid (∀ v, Calls Tryz.prog 61 #[.int .u8 (n : Int)] v fun e w' => e = .returned (.bool false) ∧ w' = v) := fun v => by have := rblank_any n v; rw [hP.b] at this; exact this
  have H1 : Hid (∀ v, Calls Tryz.prog 62 #[.string s, .int .i64 (p : Int), .string ⟨#[47, 47]⟩] v fun e w' => e = .returned (.bool false) ∧ w' = v) := fun v => by
    have := rbegins_two s p 47 47 hs (by omega) v; rw [decide_eq_false (by exact hP.l)] at this; exact this
  have H2 : Hid (∀ v, Calls Tryz.prog 62 #[.string s, .int .i64 (p : Int), .string ⟨#[47, 42]⟩] v fun e w' => e = .returned (.bool false) ∧ w' = v) := fun v => by
    have := rbegins_two s p 47 42 hs (by omega) v; rw [decide_eq_false (by exact hP.c)] at this; exact this
  have HL : Hid (∀ v, Below w.heap.size w v → Calls Tryz.prog 63 #[.string s, .int .i64 (p : Int), .bool false] v fun e w' => e = .returned (.int .i64 0) ∧ Below v.heap.size v w') := fun v hv => by
    have := rletter_any s p false hs (by omega) v (hT.below hv)
    rw [show ltr s p false = 0 by unfold ltr; rw [if_neg (by rintro ⟨-, h⟩; rw [if_neg (by simp), hl] at h; simp at h)]] at this; exact this
  have HM : Hid (∀ v, Below w.heap.size w v → Calls Tryz.prog 65 #[.string s, .int .i64 (p : Int)] v fun e w' => e = .returned (pcR (ruP s p)) ∧ Below v.heap.size v w') := fun v hv => rrun_any s p hs hp v (hT.below hv)
  have HB : Hid (Below w.heap.size w w) := Below.refl _ _
  obtain ⟨r0, r1, r2, r3, hr⟩ : ∃ r0 r1 r2 r3, pcR (ruP s p) = .tuple #[r0, r1, r2, r3] := by cases ruP s p <;> exact ⟨_, _, _, _, rfl⟩
  rw [hr] at HM ⊢
  have h00 : ¬ (0 : Int) > 0 := by decide
  clear hQ hP hl hbt hT hr
  have g1 : (n : Int) ≥ 48 := by omega
  have g2 : (n : Int) ≤ 57 := by omega
  go_enter Tryz.func40, Tryz.ntmps40
  go_wp2_with (first
    | (go_at_call 61; (with_reducible refine (H0.out _).mono ?_); rintro e w3 ⟨rfl, hw3⟩; obtain rfl := hw3.symm)
    | (go_at_call 62; (with_reducible refine (H1.out _).mono ?_); rintro e w3 ⟨rfl, hw3⟩; obtain rfl := hw3.symm)
    | (go_at_call 62; (with_reducible refine (H2.out _).mono ?_); rintro e w3 ⟨rfl, hw3⟩; obtain rfl := hw3.symm)
    | (go_at_call 63; (with_reducible refine (HL.out _ HB.out).mono ?_); rintro e w3 ⟨rfl, hb3⟩; have HB3 : Hid (Below w.heap.size w w3) := hb3; clear hb3)
    | (go_at_call 65; (with_reducible refine (HM.out _ HB3.out).mono ?_); rintro e w4 ⟨rfl, hb4⟩; have HB4 : Hid (Below w.heap.size w w4) := HB3.out.trans (hb4.mono HB3.out.size); clear hb4))
  refine bodyPost_ret (v := .tuple #[r0, r1, r2, r3]) (by simp [results, Tryz.results40, go_sem]) rfl ⟨rfl, HB4.out⟩

set_option maxRecDepth 1000000 in
set_option maxHeartbeats 8000000 in
theorem rPiece_q34 (s : ByteArray) (p : Nat) (hs : s.size ≤ 4294967280) (hp : p < s.size) (n : Nat) (hn : (s[p]'hp).toNat = n) (hP : Pn s p n) (hl : isL (rn s p) = false) (h : n = 34) (w : World) (hT : Lt w)
    (hQc : ∀ v, Lt v → Calls Tryz.prog 66 #[.string s, .int .i64 (p : Int)] v fun e w' => e = .returned (pcR (quP s p)) ∧ Below v.heap.size v w') :
    Calls Tryz.prog 40 #[.string s, .int .i64 (p : Int)] w fun e w' => e = .returned (pcR (pce s p)) ∧ Below w.heap.size w w' := by
  have hbt : bt s p = n := by rw [bt_in hp, hn]
  have hQ : pce s p = quP s p := by unfold pce; rw [if_neg (by rw [hbt, hP.b]; simp), if_neg hP.l, if_neg hP.c, if_neg (by rw [hl]; simp), if_neg (by rw [hbt]; omega), if_pos (by rw [hbt]; omega)]
  rw [hQ]
  have hp' : (p : Int) < (s.size : Int) := by omega
  have H0 : Hid (∀ v, Calls Tryz.prog 61 #[.int .u8 (n : Int)] v fun e w' => e = .returned (.bool false) ∧ w' = v) := fun v => by have := rblank_any n v; rw [hP.b] at this; exact this
  have H1 : Hid (∀ v, Calls Tryz.prog 62 #[.string s, .int .i64 (p : Int), .string ⟨#[47, 47]⟩] v fun e w' => e = .returned (.bool false) ∧ w' = v) := fun v => by
    have := rbegins_two s p 47 47 hs (by omega) v; rw [decide_eq_false (by exact hP.l)] at this; exact this
  have H2 : Hid (∀ v, Calls Tryz.prog 62 #[.string s, .int .i64 (p : Int), .string ⟨#[47, 42]⟩] v fun e w' => e = .returned (.bool false) ∧ w' = v) := fun v => by
    have := rbegins_two s p 47 42 hs (by omega) v; rw [decide_eq_false (by exact hP.c)] at this; exact this
  have HL : Hid (∀ v, Below w.heap.size w v → Calls Tryz.prog 63 #[.string s, .int .i64 (p : Int), .bool false] v fun e w' => e = .returned (.int .i64 0) ∧ Below v.heap.size v w') := fun v hv => by
    have := rletter_any s p false hs (by omega) v (hT.below hv)
    rw [show ltr s p false = 0 by unfold ltr; rw [if_neg (by rintro ⟨-, h⟩; rw [if_neg (by simp), hl] at h; simp at h)]] at this; exact this
  have HM : Hid (∀ v, Below w.heap.size w v → Calls Tryz.prog 66 #[.string s, .int .i64 (p : Int)] v fun e w' => e = .returned (pcR (quP s p)) ∧ Below v.heap.size v w') := fun v hv => hQc v (hT.below hv)
  have HB : Hid (Below w.heap.size w w) := Below.refl _ _
  obtain ⟨r0, r1, r2, r3, hr⟩ : ∃ r0 r1 r2 r3, pcR (quP s p) = .tuple #[r0, r1, r2, r3] := by cases quP s p <;> exact ⟨_, _, _, _, rfl⟩
  rw [hr] at HM ⊢
  have h00 : ¬ (0 : Int) > 0 := by decide
  clear hQ hP hl hbt hT hr hQc
  subst h
  replace H0 : Hid (∀ v, Calls Tryz.prog 61 #[.int .u8 34] v fun e w' => e = .returned (.bool false) ∧ w' = v) := H0.out
  go_enter Tryz.func40, Tryz.ntmps40
  go_wp2_with (first
    | (go_at_call 61; (with_reducible refine (H0.out _).mono ?_); rintro e w3 ⟨rfl, hw3⟩; obtain rfl := hw3.symm)
    | (go_at_call 62; (with_reducible refine (H1.out _).mono ?_); rintro e w3 ⟨rfl, hw3⟩; obtain rfl := hw3.symm)
    | (go_at_call 62; (with_reducible refine (H2.out _).mono ?_); rintro e w3 ⟨rfl, hw3⟩; obtain rfl := hw3.symm)
    | (go_at_call 63; (with_reducible refine (HL.out _ HB.out).mono ?_); rintro e w3 ⟨rfl, hb3⟩; have HB3 : Hid (Below w.heap.size w w3) := hb3; clear hb3)
    | (go_at_call 66; (with_reducible refine (HM.out _ HB3.out).mono ?_); rintro e w4 ⟨rfl, hb4⟩; have HB4 : Hid (Below w.heap.size w w4) := HB3.out.trans (hb4.mono HB3.out.size); clear hb4))
  refine bodyPost_ret (v := .tuple #[r0, r1, r2, r3]) (by simp [results, Tryz.results40, go_sem]) rfl ⟨rfl, HB4.out⟩

set_option maxRecDepth 1000000 in
set_option maxHeartbeats 8000000 in
theorem rPiece_q39 (s : ByteArray) (p : Nat) (hs : s.size ≤ 4294967280) (hp : p < s.size) (n : Nat) (hn : (s[p]'hp).toNat = n) (hP : Pn s p n) (hl : isL (rn s p) = false) (h : n = 39) (w : World) (hT : Lt w)
    (hQc : ∀ v, Lt v → Calls Tryz.prog 66 #[.string s, .int .i64 (p : Int)] v fun e w' => e = .returned (pcR (quP s p)) ∧ Below v.heap.size v w') :
    Calls Tryz.prog 40 #[.string s, .int .i64 (p : Int)] w fun e w' => e = .returned (pcR (pce s p)) ∧ Below w.heap.size w w' := by
  have hbt : bt s p = n := by rw [bt_in hp, hn]
  have hQ : pce s p = quP s p := by unfold pce; rw [if_neg (by rw [hbt, hP.b]; simp), if_neg hP.l, if_neg hP.c, if_neg (by rw [hl]; simp), if_neg (by rw [hbt]; omega), if_pos (by rw [hbt]; omega)]
  rw [hQ]
  have hp' : (p : Int) < (s.size : Int) := by omega
  have H0 : Hid (∀ v, Calls Tryz.prog 61 #[.int .u8 (n : Int)] v fun e w' => e = .returned (.bool false) ∧ w' = v) := fun v => by have := rblank_any n v; rw [hP.b] at this; exact this
  have H1 : Hid (∀ v, Calls Tryz.prog 62 #[.string s, .int .i64 (p : Int), .string ⟨#[47, 47]⟩] v fun e w' => e = .returned (.bool false) ∧ w' = v) := fun v => by
    have := rbegins_two s p 47 47 hs (by omega) v; rw [decide_eq_false (by exact hP.l)] at this; exact this
  have H2 : Hid (∀ v, Calls Tryz.prog 62 #[.string s, .int .i64 (p : Int), .string ⟨#[47, 42]⟩] v fun e w' => e = .returned (.bool false) ∧ w' = v) := fun v => by
    have := rbegins_two s p 47 42 hs (by omega) v; rw [decide_eq_false (by exact hP.c)] at this; exact this
  have HL : Hid (∀ v, Below w.heap.size w v → Calls Tryz.prog 63 #[.string s, .int .i64 (p : Int), .bool false] v fun e w' => e = .returned (.int .i64 0) ∧ Below v.heap.size v w') := fun v hv => by
    have := rletter_any s p false hs (by omega) v (hT.below hv)
    rw [show ltr s p false = 0 by unfold ltr; rw [if_neg (by rintro ⟨-, h⟩; rw [if_neg (by simp), hl] at h; simp at h)]] at this; exact this
  have HM : Hid (∀ v, Below w.heap.size w v → Calls Tryz.prog 66 #[.string s, .int .i64 (p : Int)] v fun e w' => e = .returned (pcR (quP s p)) ∧ Below v.heap.size v w') := fun v hv => hQc v (hT.below hv)
  have HB : Hid (Below w.heap.size w w) := Below.refl _ _
  obtain ⟨r0, r1, r2, r3, hr⟩ : ∃ r0 r1 r2 r3, pcR (quP s p) = .tuple #[r0, r1, r2, r3] := by cases quP s p <;> exact ⟨_, _, _, _, rfl⟩
  rw [hr] at HM ⊢
  have h00 : ¬ (0 : Int) > 0 := by decide
  clear hQ hP hl hbt hT hr hQc
  subst h
  replace H0 : Hid (∀ v, Calls Tryz.prog 61 #[.int .u8 39] v fun e w' => e = .returned (.bool false) ∧ w' = v) := H0.out
  go_enter Tryz.func40, Tryz.ntmps40
  go_wp2_with (first
    | (go_at_call 61; (with_reducible refine (H0.out _).mono ?_); rintro e w3 ⟨rfl, hw3⟩; obtain rfl := hw3.symm)
    | (go_at_call 62; (with_reducible refine (H1.out _).mono ?_); rintro e w3 ⟨rfl, hw3⟩; obtain rfl := hw3.symm)
    | (go_at_call 62; (with_reducible refine (H2.out _).mono ?_); rintro e w3 ⟨rfl, hw3⟩; obtain rfl := hw3.symm)
    | (go_at_call 63; (with_reducible refine (HL.out _ HB.out).mono ?_); rintro e w3 ⟨rfl, hb3⟩; have HB3 : Hid (Below w.heap.size w w3) := hb3; clear hb3)
    | (go_at_call 66; (with_reducible refine (HM.out _ HB3.out).mono ?_); rintro e w4 ⟨rfl, hb4⟩; have HB4 : Hid (Below w.heap.size w w4) := HB3.out.trans (hb4.mono HB3.out.size); clear hb4))
  refine bodyPost_ret (v := .tuple #[r0, r1, r2, r3]) (by simp [results, Tryz.results40, go_sem]) rfl ⟨rfl, HB4.out⟩

set_option maxRecDepth 1000000 in
set_option maxHeartbeats 8000000 in
theorem rPiece_q96 (s : ByteArray) (p : Nat) (hs : s.size ≤ 4294967280) (hp : p < s.size) (n : Nat) (hn : (s[p]'hp).toNat = n) (hP : Pn s p n) (hl : isL (rn s p) = false) (h : n = 96) (w : World) (hT : Lt w)
    (hQc : ∀ v, Lt v → Calls Tryz.prog 66 #[.string s, .int .i64 (p : Int)] v fun e w' => e = .returned (pcR (quP s p)) ∧ Below v.heap.size v w') :
    Calls Tryz.prog 40 #[.string s, .int .i64 (p : Int)] w fun e w' => e = .returned (pcR (pce s p)) ∧ Below w.heap.size w w' := by
  have hbt : bt s p = n := by rw [bt_in hp, hn]
  have hQ : pce s p = quP s p := by unfold pce; rw [if_neg (by rw [hbt, hP.b]; simp), if_neg hP.l, if_neg hP.c, if_neg (by rw [hl]; simp), if_neg (by rw [hbt]; omega), if_pos (by rw [hbt]; omega)]
  rw [hQ]
  have hp' : (p : Int) < (s.size : Int) := by omega
  have H0 : Hid (∀ v, Calls Tryz.prog 61 #[.int .u8 (n : Int)] v fun e w' => e = .returned (.bool false) ∧ w' = v) := fun v => by have := rblank_any n v; rw [hP.b] at this; exact this
  have H1 : Hid (∀ v, Calls Tryz.prog 62 #[.string s, .int .i64 (p : Int), .string ⟨#[47, 47]⟩] v fun e w' => e = .returned (.bool false) ∧ w' = v) := fun v => by
    have := rbegins_two s p 47 47 hs (by omega) v; rw [decide_eq_false (by exact hP.l)] at this; exact this
  have H2 : Hid (∀ v, Calls Tryz.prog 62 #[.string s, .int .i64 (p : Int), .string ⟨#[47, 42]⟩] v fun e w' => e = .returned (.bool false) ∧ w' = v) := fun v => by
    have := rbegins_two s p 47 42 hs (by omega) v; rw [decide_eq_false (by exact hP.c)] at this; exact this
  have HL : Hid (∀ v, Below w.heap.size w v → Calls Tryz.prog 63 #[.string s, .int .i64 (p : Int), .bool false] v fun e w' => e = .returned (.int .i64 0) ∧ Below v.heap.size v w') := fun v hv => by
    have := rletter_any s p false hs (by omega) v (hT.below hv)
    rw [show ltr s p false = 0 by unfold ltr; rw [if_neg (by rintro ⟨-, h⟩; rw [if_neg (by simp), hl] at h; simp at h)]] at this; exact this
  have HM : Hid (∀ v, Below w.heap.size w v → Calls Tryz.prog 66 #[.string s, .int .i64 (p : Int)] v fun e w' => e = .returned (pcR (quP s p)) ∧ Below v.heap.size v w') := fun v hv => hQc v (hT.below hv)
  have HB : Hid (Below w.heap.size w w) := Below.refl _ _
  obtain ⟨r0, r1, r2, r3, hr⟩ : ∃ r0 r1 r2 r3, pcR (quP s p) = .tuple #[r0, r1, r2, r3] := by cases quP s p <;> exact ⟨_, _, _, _, rfl⟩
  rw [hr] at HM ⊢
  have h00 : ¬ (0 : Int) > 0 := by decide
  clear hQ hP hl hbt hT hr hQc
  subst h
  replace H0 : Hid (∀ v, Calls Tryz.prog 61 #[.int .u8 96] v fun e w' => e = .returned (.bool false) ∧ w' = v) := H0.out
  go_enter Tryz.func40, Tryz.ntmps40
  go_wp2_with (first
    | (go_at_call 61; (with_reducible refine (H0.out _).mono ?_); rintro e w3 ⟨rfl, hw3⟩; obtain rfl := hw3.symm)
    | (go_at_call 62; (with_reducible refine (H1.out _).mono ?_); rintro e w3 ⟨rfl, hw3⟩; obtain rfl := hw3.symm)
    | (go_at_call 62; (with_reducible refine (H2.out _).mono ?_); rintro e w3 ⟨rfl, hw3⟩; obtain rfl := hw3.symm)
    | (go_at_call 63; (with_reducible refine (HL.out _ HB.out).mono ?_); rintro e w3 ⟨rfl, hb3⟩; have HB3 : Hid (Below w.heap.size w w3) := hb3; clear hb3)
    | (go_at_call 66; (with_reducible refine (HM.out _ HB3.out).mono ?_); rintro e w4 ⟨rfl, hb4⟩; have HB4 : Hid (Below w.heap.size w w4) := HB3.out.trans (hb4.mono HB3.out.size); clear hb4))
  refine bodyPost_ret (v := .tuple #[r0, r1, r2, r3]) (by simp [results, Tryz.results40, go_sem]) rfl ⟨rfl, HB4.out⟩

set_option maxRecDepth 1000000 in
set_option maxHeartbeats 8000000 in
theorem rPiece_low (s : ByteArray) (p : Nat) (hs : s.size ≤ 4294967280) (hp : p < s.size) (n : Nat) (hn : (s[p]'hp).toNat = n) (hP : Pn s p n) (hl : isL (rn s p) = false) (h : n < 48) (h3 : n ≠ 39 ∧ n ≠ 34) (w : World) (hT : Lt w) :
    Calls Tryz.prog 40 #[.string s, .int .i64 (p : Int)] w fun e w' => e = .returned (pcR (pce s p)) ∧ Below w.heap.size w w' := by
  have hbt : bt s p = n := by rw [bt_in hp, hn]
  have hQ : pce s p = mkP s p := by unfold pce; rw [if_neg (by rw [hbt, hP.b]; simp), if_neg hP.l, if_neg hP.c, if_neg (by rw [hl]; simp), if_neg (by rw [hbt]; omega), if_neg (by rw [hbt]; omega)]
  rw [hQ]
  have hp' : (p : Int) < (s.size : Int) := by omega
  have H0 : Hid (∀ v, Calls Tryz.prog 61 #[.int .u8 (n : Int)] v fun e w' => e = .returned (.bool false) ∧ w' = v) := fun v => by have := rblank_any n v; rw [hP.b] at this; exact this
  have H1 : Hid (∀ v, Calls Tryz.prog 62 #[.string s, .int .i64 (p : Int), .string ⟨#[47, 47]⟩] v fun e w' => e = .returned (.bool false) ∧ w' = v) := fun v => by
    have := rbegins_two s p 47 47 hs (by omega) v; rw [decide_eq_false (by exact hP.l)] at this; exact this
  have H2 : Hid (∀ v, Calls Tryz.prog 62 #[.string s, .int .i64 (p : Int), .string ⟨#[47, 42]⟩] v fun e w' => e = .returned (.bool false) ∧ w' = v) := fun v => by
    have := rbegins_two s p 47 42 hs (by omega) v; rw [decide_eq_false (by exact hP.c)] at this; exact this
  have HL : Hid (∀ v, Below w.heap.size w v → Calls Tryz.prog 63 #[.string s, .int .i64 (p : Int), .bool false] v fun e w' => e = .returned (.int .i64 0) ∧ Below v.heap.size v w') := fun v hv => by
    have := rletter_any s p false hs (by omega) v (hT.below hv)
    rw [show ltr s p false = 0 by unfold ltr; rw [if_neg (by rintro ⟨-, h⟩; rw [if_neg (by simp), hl] at h; simp at h)]] at this; exact this
  have HM : Hid (∀ v, Below w.heap.size w v → Calls Tryz.prog 67 #[.string s, .int .i64 (p : Int)] v fun e w' => e = .returned (pcR (mkP s p)) ∧ Below v.heap.size v w') := fun v hv => rmark_any s p hs hp v
  have HB : Hid (Below w.heap.size w w) := Below.refl _ _
  obtain ⟨r0, r1, r2, r3, hr⟩ : ∃ r0 r1 r2 r3, pcR (mkP s p) = .tuple #[r0, r1, r2, r3] := by cases mkP s p <;> exact ⟨_, _, _, _, rfl⟩
  rw [hr] at HM ⊢
  have h00 : ¬ (0 : Int) > 0 := by decide
  clear hQ hP hl hbt hT hr
  have g1 : ¬ (n : Int) ≥ 48 := by omega
  have q1 : ((n : Int) == 39) = false := by simp; omega
  have q2 : ((n : Int) == 34) = false := by simp; omega
  have q3 : ((n : Int) == 96) = false := by simp; omega
  go_enter Tryz.func40, Tryz.ntmps40
  go_wp2_with (first
    | (go_at_call 61; (with_reducible refine (H0.out _).mono ?_); rintro e w3 ⟨rfl, hw3⟩; obtain rfl := hw3.symm)
    | (go_at_call 62; (with_reducible refine (H1.out _).mono ?_); rintro e w3 ⟨rfl, hw3⟩; obtain rfl := hw3.symm)
    | (go_at_call 62; (with_reducible refine (H2.out _).mono ?_); rintro e w3 ⟨rfl, hw3⟩; obtain rfl := hw3.symm)
    | (go_at_call 63; (with_reducible refine (HL.out _ HB.out).mono ?_); rintro e w3 ⟨rfl, hb3⟩; have HB3 : Hid (Below w.heap.size w w3) := hb3; clear hb3)
    | (go_at_call 67; (with_reducible refine (HM.out _ HB3.out).mono ?_); rintro e w4 ⟨rfl, hb4⟩; have HB4 : Hid (Below w.heap.size w w4) := HB3.out.trans (hb4.mono HB3.out.size); clear hb4))
  refine bodyPost_ret (v := .tuple #[r0, r1, r2, r3]) (by simp [results, Tryz.results40, go_sem]) rfl ⟨rfl, HB4.out⟩

set_option maxRecDepth 1000000 in
set_option maxHeartbeats 8000000 in
theorem rPiece_high (s : ByteArray) (p : Nat) (hs : s.size ≤ 4294967280) (hp : p < s.size) (n : Nat) (hn : (s[p]'hp).toNat = n) (hP : Pn s p n) (hl : isL (rn s p) = false) (h : 57 < n) (h3 : n ≠ 96) (w : World) (hT : Lt w) :
    Calls Tryz.prog 40 #[.string s, .int .i64 (p : Int)] w fun e w' => e = .returned (pcR (pce s p)) ∧ Below w.heap.size w w' := by
  have hbt : bt s p = n := by rw [bt_in hp, hn]
  have hQ : pce s p = mkP s p := by unfold pce; rw [if_neg (by rw [hbt, hP.b]; simp), if_neg hP.l, if_neg hP.c, if_neg (by rw [hl]; simp), if_neg (by rw [hbt]; omega), if_neg (by rw [hbt]; omega)]
  rw [hQ]
  have hp' : (p : Int) < (s.size : Int) := by omega
  have H0 : Hid (∀ v, Calls Tryz.prog 61 #[.int .u8 (n : Int)] v fun e w' => e = .returned (.bool false) ∧ w' = v) := fun v => by have := rblank_any n v; rw [hP.b] at this; exact this
  have H1 : Hid (∀ v, Calls Tryz.prog 62 #[.string s, .int .i64 (p : Int), .string ⟨#[47, 47]⟩] v fun e w' => e = .returned (.bool false) ∧ w' = v) := fun v => by
    have := rbegins_two s p 47 47 hs (by omega) v; rw [decide_eq_false (by exact hP.l)] at this; exact this
  have H2 : Hid (∀ v, Calls Tryz.prog 62 #[.string s, .int .i64 (p : Int), .string ⟨#[47, 42]⟩] v fun e w' => e = .returned (.bool false) ∧ w' = v) := fun v => by
    have := rbegins_two s p 47 42 hs (by omega) v; rw [decide_eq_false (by exact hP.c)] at this; exact this
  have HL : Hid (∀ v, Below w.heap.size w v → Calls Tryz.prog 63 #[.string s, .int .i64 (p : Int), .bool false] v fun e w' => e = .returned (.int .i64 0) ∧ Below v.heap.size v w') := fun v hv => by
    have := rletter_any s p false hs (by omega) v (hT.below hv)
    rw [show ltr s p false = 0 by unfold ltr; rw [if_neg (by rintro ⟨-, h⟩; rw [if_neg (by simp), hl] at h; simp at h)]] at this; exact this
  have HM : Hid (∀ v, Below w.heap.size w v → Calls Tryz.prog 67 #[.string s, .int .i64 (p : Int)] v fun e w' => e = .returned (pcR (mkP s p)) ∧ Below v.heap.size v w') := fun v hv => rmark_any s p hs hp v
  have HB : Hid (Below w.heap.size w w) := Below.refl _ _
  obtain ⟨r0, r1, r2, r3, hr⟩ : ∃ r0 r1 r2 r3, pcR (mkP s p) = .tuple #[r0, r1, r2, r3] := by cases mkP s p <;> exact ⟨_, _, _, _, rfl⟩
  rw [hr] at HM ⊢
  have h00 : ¬ (0 : Int) > 0 := by decide
  clear hQ hP hl hbt hT hr
  have g1 : (n : Int) ≥ 48 := by omega
  have g2 : ¬ (n : Int) ≤ 57 := by omega
  have q1 : ((n : Int) == 39) = false := by simp; omega
  have q2 : ((n : Int) == 34) = false := by simp; omega
  have q3 : ((n : Int) == 96) = false := by simp; omega
  go_enter Tryz.func40, Tryz.ntmps40
  go_wp2_with (first
    | (go_at_call 61; (with_reducible refine (H0.out _).mono ?_); rintro e w3 ⟨rfl, hw3⟩; obtain rfl := hw3.symm)
    | (go_at_call 62; (with_reducible refine (H1.out _).mono ?_); rintro e w3 ⟨rfl, hw3⟩; obtain rfl := hw3.symm)
    | (go_at_call 62; (with_reducible refine (H2.out _).mono ?_); rintro e w3 ⟨rfl, hw3⟩; obtain rfl := hw3.symm)
    | (go_at_call 63; (with_reducible refine (HL.out _ HB.out).mono ?_); rintro e w3 ⟨rfl, hb3⟩; have HB3 : Hid (Below w.heap.size w w3) := hb3; clear hb3)
    | (go_at_call 67; (with_reducible refine (HM.out _ HB3.out).mono ?_); rintro e w4 ⟨rfl, hb4⟩; have HB4 : Hid (Below w.heap.size w w4) := HB3.out.trans (hb4.mono HB3.out.size); clear hb4))
  refine bodyPost_ret (v := .tuple #[r0, r1, r2, r3]) (by simp [results, Tryz.results40, go_sem]) rfl ⟨rfl, HB4.out⟩

/-- the reference's Piece, at every place of a text (quoted's contract is a premise) -/
theorem rPiece_of (s : ByteArray) (p : Nat) (hs : s.size ≤ 4294967280) (hp : p < s.size) (w : World) (hT : Lt w)
    (hQc : (bt s p = 39 ∨ bt s p = 34 ∨ bt s p = 96) → ∀ v, Lt v → Calls Tryz.prog 66 #[.string s, .int .i64 (p : Int)] v fun e w' => e = .returned (pcR (quP s p)) ∧ Below v.heap.size v w') :
    Calls Tryz.prog 40 #[.string s, .int .i64 (p : Int)] w fun e w' => e = .returned (pcR (pce s p)) ∧ Below w.heap.size w w' := by
  obtain ⟨n, hn⟩ : ∃ n, (s[p]'hp).toNat = n := ⟨_, rfl⟩
  have hbt : bt s p = n := by rw [bt_in hp, hn]
  by_cases hb : blk (bt s p) = true
  · exact rPiece_blank s p hs hp hb w
  by_cases hl : bt s p = 47 ∧ bt s (p + 1) = 47
  · exact rPiece_line s p hs hp hl w
  by_cases hc : bt s p = 47 ∧ bt s (p + 1) = 42
  · exact rPiece_note s p hs hp hc w
  have hP : Pn s p n := ⟨by rw [hbt] at hb; simpa using hb, hl, hc⟩
  cases hi : isL (rn s p) with
  | true => exact rPiece_name s p hs hp n hn hP hi w hT
  | false =>
    by_cases h1 : 48 ≤ n ∧ n ≤ 57
    · exact rPiece_run s p hs hp n hn hP hi h1 w hT
    by_cases h2 : n = 34
    · exact rPiece_q34 s p hs hp n hn hP hi h2 w hT (hQc (by omega))
    by_cases h3 : n = 39
    · exact rPiece_q39 s p hs hp n hn hP hi h3 w hT (hQc (by omega))
    by_cases h4 : n = 96
    · exact rPiece_q96 s p hs hp n hn hP hi h4 w hT (hQc (by omega))
    by_cases h5 : n < 48
    · exact rPiece_low s p hs hp n hn hP hi h5 ⟨h3, h2⟩ w hT
    · exact rPiece_high s p hs hp n hn hP hi (by omega) h4 w hT
end Go.Proofs.YtnaipmgdipflgaaGreatDoor
