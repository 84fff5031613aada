import Derived.Test.YtnaipmgdipflgaaGreatDoorRl8
import Derived.Test.YtnaipmgdipflgaaGreatDoorTm4
import Derived.Test.YtnaipmgdipflgaaGreatDoorLm0
import Derived.Test.YtnaipmgdipflgaaGreatDoorLmp
namespace Go.Proofs.YtnaipmgdipflgaaGreatDoor
open Go.ChangeShapes Go.WideShapes Go.ChangeAt Go.RowKit
set_option linter.unusedVariables false
set_option linter.unusedSimpArgs false

theorem bgn_two (s : ByteArray) (p : Nat) (c d : UInt8) (hp : p ≤ s.size) : bgn s p [c, d] = decide (bt s p = c.toNat ∧ bt s (p + 1) = d.toNat) := by
  rw [Bool.eq_iff_iff, bgn_fit s [c, d] p hp, decide_eq_true_iff]
  simp [fit]
theorem rbegins_two (s : ByteArray) (p : Nat) (c d : UInt8) (hs : s.size ≤ 4294967280) (hp : p ≤ s.size) (w : World) :
    Calls Tryz.prog 62 #[.string s, .int .i64 (p : Int), .string ⟨#[c, d]⟩] w fun e w' => e = .returned (.bool (decide (bt s p = c.toNat ∧ bt s (p + 1) = d.toNat))) ∧ w' = w := by
  rw [← bgn_two s p c d hp]
  exact rbegins_any s p ⟨#[c, d]⟩ hs (by show 2 ≤ 16; decide) hp w

set_option maxRecDepth 1000000 in
set_option maxHeartbeats 8000000 in
theorem rPiece_blank (s : ByteArray) (p : Nat) (hs : s.size ≤ 4294967280) (hp : p < s.size) (hb : blk (bt s p) = true) (w : World) :
    Calls Tryz.prog 40 #[.string s, .int .i64 (p : Int)] w fun e w' => e = .returned (pcR (pce s p)) ∧ Below w.heap.size w w' := by
  have hQ : pce s p = .ok 0 (blE s p) := by unfold pce; rw [if_pos hb]
  rw [hQ]
  obtain ⟨F, hF⟩ : ∃ F, blE s p = F := ⟨_, rfl⟩
  have HF : Hid (blE s p = F) := hF
  rw [hF]
  obtain ⟨m, hm⟩ : ∃ m, (s[p]'hp).toNat = m := ⟨_, rfl⟩
  have hp' : (p : Int) < (s.size : Int) := by omega
  rw [bt_in hp, hm] at hb
  have H0 : Hid (∀ v, Calls Tryz.prog 61 #[.int .u8 (m : Int)] v fun e w' => e = .returned (.bool true) ∧ w' = v) := fun v => by have := rblank_any m v; rw [hb] at this; exact this
  clear hQ hF hb
  go_enter Tryz.func40, Tryz.ntmps40
  go_wp2_with (go_at_call 61; (with_reducible refine (H0.out _).mono ?_); rintro e w3 ⟨rfl, hw3⟩; obtain rfl := hw3.symm)
  go_loopw [9] (fun st wr => ∃ k : Nat, p ≤ k ∧ k ≤ s.size ∧ st = .int .i64 (k : Int) ∧ blE s k = F ∧ wr = w) (fun st _ => s.size - (intOf st).toNat)
  case atStart => exact ⟨p, by omega, by omega, rfl, HF.out, rfl⟩
  case round =>
    obtain ⟨k, hpk, hk, rfl, hfk, rfl⟩ := hrel
    have HK : Hid (blE s k = F) := hfk
    clear hfk
    by_cases hlt : k < s.size
    · have hlt2 : (k : Int) < (s.size : Int) := by omega
      obtain ⟨n, hn⟩ : ∃ n, (s[k]'hlt).toNat = n := ⟨_, rfl⟩
      have hbt : bt s k = n := by rw [bt_in hlt, hn]
      cases hbn : blk n with
      | true =>
        have HN : Hid (blE s (k + 1) = F) := by unfold Hid; rw [← blE_in hlt (by rw [hbt]; exact hbn)]; exact HK.out
        have H1 : Hid (∀ v, Calls Tryz.prog 61 #[.int .u8 (n : Int)] v fun e w' => e = .returned (.bool true) ∧ w' = v) := fun v => by have := rblank_any n v; rw [hbn] at this; exact this
        clear HK hbt hbn
        go_wp2_with (go_at_call 61; (with_reducible refine (H1.out _).mono ?_); rintro e w3 ⟨rfl, hw3⟩; obtain rfl := hw3.symm)
        go_roundw
        case rel => exact ⟨k + 1, by omega, by omega, by go_num, HN.out, by first | trivial | rfl⟩
        case measure => simp [intOf]; omega
      | false =>
        have HR : Hid (F = k) := by unfold Hid; rw [← HK.out, blE_out (by rw [hbt, hbn]; simp)]
        have H1 : Hid (∀ v, Calls Tryz.prog 61 #[.int .u8 (n : Int)] v fun e w' => e = .returned (.bool false) ∧ w' = v) := fun v => by have := rblank_any n v; rw [hbn] at this; exact this
        clear HK hbt hbn
        go_wp2_with (go_at_call 61; (with_reducible refine (H1.out _).mono ?_); rintro e w3 ⟨rfl, hw3⟩; obtain rfl := hw3.symm)
        refine bodyPost_ret (v := .tuple #[.int .i64 0, .int .i64 (k : Int), .int .i64 0, .int .i64 0]) (by simp [results, Tryz.results40, go_sem]) rfl ⟨by rw [HR.out]; simp [pcR], Below.refl _ _⟩
    · have hge : ¬ (k : Int) < (s.size : Int) := by omega
      have HR : Hid (F = k) := by unfold Hid; rw [← HK.out, blE_out (by rintro ⟨h, -⟩; exact hlt h)]
      clear HK
      go_wp2
      refine bodyPost_ret (v := .tuple #[.int .i64 0, .int .i64 (k : Int), .int .i64 0, .int .i64 0]) (by simp [results, Tryz.results40, go_sem]) rfl ⟨by rw [HR.out]; simp [pcR], Below.refl _ _⟩
set_option maxRecDepth 1000000 in
set_option maxHeartbeats 8000000 in
theorem rPiece_line (s : ByteArray) (p : Nat) (hs : s.size ≤ 4294967280) (hp : p < s.size) (hb : bt s p = 47 ∧ bt s (p + 1) = 47) (w : World) :
    Calls Tryz.prog 40 #[.string s, .int .i64 (p : Int)] w fun e w' => e = .returned (pcR (pce s p)) ∧ Below w.heap.size w w' := by
  have hQ : pce s p = .ok 1 (fnd s 10 p) := by unfold pce; rw [if_neg (by rw [hb.1]; decide), if_pos hb]
  rw [hQ]
  obtain ⟨F, hF⟩ : ∃ F, fnd s 10 p = F := ⟨_, rfl⟩
  have HF : Hid (fnd s 10 p = F) := hF
  rw [hF]
  have hm : (s[p]'hp).toNat = 47 := by rw [← bt_in hp]; exact hb.1
  have hp' : (p : Int) < (s.size : Int) := by omega
  have H0 : Hid (∀ v, Calls Tryz.prog 61 #[.int .u8 47] v fun e w' => e = .returned (.bool false) ∧ w' = v) := fun v => rblank_any 47 v
  have H1 : Hid (∀ v, Calls Tryz.prog 62 #[.string s, .int .i64 (p : Int), .string ⟨#[47, 47]⟩] v fun e w' => e = .returned (.bool true) ∧ w' = v) := fun v => by
    have := rbegins_two s p 47 47 hs (by omega) v; rw [decide_eq_true (by exact hb)] at this; exact this
  clear hQ hF hb
  go_enter Tryz.func40, Tryz.ntmps40
  go_wp2_with (first
    | (go_at_call 61; (with_reducible refine (H0.out _).mono ?_); rintro e w3 ⟨rfl, hw3⟩; obtain rfl := hw3.symm)
    | (go_at_call 62; (with_reducible refine (H1.out _).mono ?_); rintro e w3 ⟨rfl, hw3⟩; obtain rfl := hw3.symm))
  go_loopw [10] (fun st wr => ∃ k : Nat, p ≤ k ∧ k ≤ s.size ∧ st = .int .i64 (k : Int) ∧ fnd s 10 k = F ∧ wr = w) (fun st _ => s.size - (intOf st).toNat)
  case atStart => exact ⟨p, by omega, by omega, rfl, HF.out, rfl⟩
  case round =>
    obtain ⟨k, hpk, hk, rfl, hfk, rfl⟩ := hrel
    have HK : Hid (fnd s 10 k = F) := hfk
    clear hfk
    by_cases hlt : k < s.size
    · have hlt2 : (k : Int) < (s.size : Int) := by omega
      obtain ⟨n, hn⟩ : ∃ n, (s[k]'hlt).toNat = n := ⟨_, rfl⟩
      have hbt : bt s k = n := by rw [bt_in hlt, hn]
      by_cases h10 : n = 10
      · have HR : Hid (F = k) := by unfold Hid; rw [← HK.out, fnd_out (by rintro ⟨-, h⟩; exact h (by omega))]
        clear HK hbt
        subst h10
        go_wp2
        refine bodyPost_ret (v := .tuple #[.int .i64 1, .int .i64 (k : Int), .int .i64 0, .int .i64 0]) (by simp [results, Tryz.results40, go_sem]) rfl ⟨by rw [HR.out]; simp [pcR], Below.refl _ _⟩
      · have HN : Hid (fnd s 10 (k + 1) = F) := by unfold Hid; rw [← fnd_in hlt (by omega)]; exact HK.out
        have hne : ((n : Int) != 10) = true := by simp; omega
        clear HK hbt
        go_wp2
        go_roundw
        case rel => exact ⟨k + 1, by omega, by omega, by go_num, HN.out, by first | trivial | rfl⟩
        case measure => simp [intOf]; omega
    · have hge : ¬ (k : Int) < (s.size : Int) := by omega
      have HR : Hid (F = k) := by unfold Hid; rw [← HK.out, fnd_out (by rintro ⟨h, -⟩; exact hlt h)]
      clear HK
      go_wp2
      refine bodyPost_ret (v := .tuple #[.int .i64 1, .int .i64 (k : Int), .int .i64 0, .int .i64 0]) (by simp [results, Tryz.results40, go_sem]) rfl ⟨by rw [HR.out]; simp [pcR], Below.refl _ _⟩
end Go.Proofs.YtnaipmgdipflgaaGreatDoor

namespace Go.Proofs.YtnaipmgdipflgaaGreatDoor
open Go.ChangeShapes Go.WideShapes Go.ChangeAt Go.RowKit
set_option linter.unusedVariables false
set_option linter.unusedSimpArgs false

set_option maxRecDepth 1000000 in
set_option maxHeartbeats 8000000 in
theorem rPiece_note (s : ByteArray) (p : Nat) (hs : s.size ≤ 4294967280) (hp : p < s.size) (hb : bt s p = 47 ∧ bt s (p + 1) = 42) (w : World) :
    Calls Tryz.prog 40 #[.string s, .int .i64 (p : Int)] w fun e w' => e = .returned (pcR (pce s p)) ∧ Below w.heap.size w w' := by
  have hQ : pce s p = noO p (fn2 s 42 47 (p + 2)) := by
    unfold pce; rw [if_neg (by rw [hb.1]; decide), if_neg (by rw [hb.1, hb.2]; decide), if_pos hb]
    cases fn2 s 42 47 (p + 2) <;> rfl
  rw [hQ]
  have hp2 : p + 1 < s.size := Classical.byContradiction fun h => by have := hb.2; rw [bt_out h] at this; omega
  obtain ⟨O, hO⟩ : ∃ O, fn2 s 42 47 (p + 2) = O := ⟨_, rfl⟩
  have HO : Hid (fn2 s 42 47 (p + 2) = O) := hO
  rw [hO]
  have hm : (s[p]'hp).toNat = 47 := by rw [← bt_in hp]; exact hb.1
  have hp' : (p : Int) < (s.size : Int) := by omega
  have H0 : Hid (∀ v, Calls Tryz.prog 61 #[.int .u8 47] v fun e w' => e = .returned (.bool false) ∧ w' = v) := fun v => rblank_any 47 v
  have H1 : Hid (∀ v, Calls Tryz.prog 62 #[.string s, .int .i64 (p : Int), .string ⟨#[47, 47]⟩] v fun e w' => e = .returned (.bool false) ∧ w' = v) := fun v => by
    have := rbegins_two s p 47 47 hs (by omega) v; rw [decide_eq_false (by rw [hb.2]; simp)] at this; exact this
  have H2 : Hid (∀ v, Calls Tryz.prog 62 #[.string s, .int .i64 (p : Int), .string ⟨#[47, 42]⟩] v fun e w' => e = .returned (.bool true) ∧ w' = v) := fun v => by
    have := rbegins_two s p 47 42 hs (by omega) v; rw [decide_eq_true (by exact hb)] at this; exact this
  obtain ⟨V, hV⟩ : ∃ V, pcR (noO p O) = V := ⟨_, rfl⟩
  have HV : Hid (pcR (noO p O) = V) := hV
  rw [hV]
  clear hQ hO hb hV
  go_enter Tryz.func40, Tryz.ntmps40
  go_wp2_with (first
    | (go_at_call 61; (with_reducible refine (H0.out _).mono ?_); rintro e w3 ⟨rfl, hw3⟩; obtain rfl := hw3.symm)
    | (go_at_call 62; (with_reducible refine (H1.out _).mono ?_); rintro e w3 ⟨rfl, hw3⟩; obtain rfl := hw3.symm)
    | (go_at_call 62; (with_reducible refine (H2.out _).mono ?_); rintro e w3 ⟨rfl, hw3⟩; obtain rfl := hw3.symm))
  go_loopw [11] (fun st wr => ∃ k : Nat, p < k ∧ k ≤ s.size ∧ st = .int .i64 (k : Int) ∧ fn2 s 42 47 k = O ∧ wr = w) (fun st _ => s.size - (intOf st).toNat)
  case atStart => exact ⟨p + 2, by omega, by omega, by go_num, HO.out, rfl⟩
  case round =>
    obtain ⟨k, hpk, hk, rfl, hfk, rfl⟩ := hrel
    have HK : Hid (fn2 s 42 47 k = O) := hfk
    clear hfk
    by_cases hlt : k < s.size
    · have hlt2 : (k : Int) < (s.size : Int) := by omega
      by_cases h10 : bt s k = 42 ∧ bt s (k + 1) = 47
      · have HR : Hid (V = pcR (.ok 1 (k + 2))) := by unfold Hid; rw [← HV.out, ← HK.out, fn2_hit hlt h10]; rfl
        have H3 : Hid (∀ v, Calls Tryz.prog 62 #[.string s, .int .i64 (k : Int), .string ⟨#[42, 47]⟩] v fun e w' => e = .returned (.bool true) ∧ w' = v) := fun v => by
          have := rbegins_two s k 42 47 hs (by omega) v; rw [decide_eq_true (by exact h10)] at this; exact this
        clear HK h10
        go_wp2_with (go_at_call 62; (with_reducible refine (H3.out _).mono ?_); rintro e w3 ⟨rfl, hw3⟩; obtain rfl := hw3.symm)
        refine bodyPost_ret (v := .tuple #[.int .i64 1, .int .i64 ((k : Int) + 2), .int .i64 0, .int .i64 0]) (by simp [results, Tryz.results40, go_sem]) rfl ⟨by rw [HR.out]; simp [pcR], Below.refl _ _⟩
      · have HN : Hid (fn2 s 42 47 (k + 1) = O) := by unfold Hid; rw [← fn2_in hlt h10]; exact HK.out
        have H3 : Hid (∀ v, Calls Tryz.prog 62 #[.string s, .int .i64 (k : Int), .string ⟨#[42, 47]⟩] v fun e w' => e = .returned (.bool false) ∧ w' = v) := fun v => by
          have := rbegins_two s k 42 47 hs (by omega) v; rw [decide_eq_false (by exact h10)] at this; exact this
        clear HK h10
        go_wp2_with (go_at_call 62; (with_reducible refine (H3.out _).mono ?_); rintro e w3 ⟨rfl, hw3⟩; obtain rfl := hw3.symm)
        go_roundw
        case rel => exact ⟨k + 1, by omega, by omega, by go_num, HN.out, by first | trivial | rfl⟩
        case measure => simp [intOf]; omega
    · have hge : ¬ (k : Int) < (s.size : Int) := by omega
      have HR : Hid (V = pcR (.no 23 p)) := by unfold Hid; rw [← HV.out, ← HK.out, fn2_out hlt]; rfl
      clear HK
      go_wp2
      refine bodyPost_ret (v := .tuple #[.int .i64 0, .int .i64 0, .int .i64 23, .int .i64 (p : Int)]) (by simp [results, Tryz.results40, go_sem]) rfl ⟨by rw [HR.out]; simp [pcR], Below.refl _ _⟩

/-- the tests of Piece ahead of the fourth, at a place where none of them holds -/
structure Pn (s : ByteArray) (p n : Nat) : Prop where
  b : blk n = false
  l : ¬ (bt s p = 47 ∧ bt s (p + 1) = 47)
  c : ¬ (bt s p = 47 ∧ bt s (p + 1) = 42)

set_option maxRecDepth 1000000 in
set_option maxHeartbeats 8000000 in
theorem rPiece_name (s : ByteArray) (p : Nat) (hs : s.size ≤ 4294967280) (hp : p < s.size) (n : Nat) (hn : (s[p]'hp).toNat = n) (hP : Pn s p n) (hl : isL (rn s p) = true) (w : World) (hT : Lt w) :
    Calls Tryz.prog 40 #[.string s, .int .i64 (p : Int)] w fun e w' => e = .returned (pcR (pce s p)) ∧ Below w.heap.size w w' := by
  have hbt : bt s p = n := by rw [bt_in hp, hn]
  have hQ : pce s p = nmP s p := by unfold pce; rw [if_neg (by rw [hbt, hP.b]; simp), if_neg hP.l, if_neg hP.c, if_pos hl]
  rw [hQ]
  have hp' : (p : Int) < (s.size : Int) := by omega
  have H0 : Hid (∀ v, Calls Tryz.prog 61 #[.int .u8 (n : Int)] v fun e w' => e = .returned (.bool false) ∧ w' = v) := fun v => by have := rblank_any n v; rw [hP.b] at this; exact this
  have H1 : Hid (∀ v, Calls Tryz.prog 62 #[.string s, .int .i64 (p : Int), .string ⟨#[47, 47]⟩] v fun e w' => e = .returned (.bool false) ∧ w' = v) := fun v => by
    have := rbegins_two s p 47 47 hs (by omega) v; rw [decide_eq_false (by exact hP.l)] at this; exact this
  have H2 : Hid (∀ v, Calls Tryz.prog 62 #[.string s, .int .i64 (p : Int), .string ⟨#[47, 42]⟩] v fun e w' => e = .returned (.bool false) ∧ w' = v) := fun v => by
    have := rbegins_two s p 47 42 hs (by omega) v; rw [decide_eq_false (by exact hP.c)] at this; exact this
  obtain ⟨d1, d2, -, -⟩ := dec_facts s p hp
  have HL : Hid (∀ v, Below w.heap.size w v → Calls Tryz.prog 63 #[.string s, .int .i64 (p : Int), .bool false] v fun e w' => e = .returned (.int .i64 (wd s p : Nat)) ∧ Below v.heap.size v w') := fun v hv => by
    have := rletter_any s p false hs (by omega) v (hT.below hv)
    rw [show ltr s p false = wd s p by unfold ltr; rw [if_pos ⟨hp, by simpa using hl⟩]] at this; exact this
  have HM : Hid (∀ v, Below w.heap.size w v → Calls Tryz.prog 64 #[.string s, .int .i64 (p : Int)] v fun e w' => e = .returned (pcR (nmP s p)) ∧ Below v.heap.size v w') := fun v hv => rname_any s p hs hp v (hT.below hv)
  obtain ⟨D, hD⟩ : ∃ D, wd s p = D := ⟨_, rfl⟩
  rw [hD] at HL d1
  have hD0 : (D : Int) > 0 := by omega
  have HB : Hid (Below w.heap.size w w) := Below.refl _ _
  obtain ⟨r0, r1, r2, r3, hr⟩ : ∃ r0 r1 r2 r3, pcR (nmP s p) = .tuple #[r0, r1, r2, r3] := by cases nmP s p <;> exact ⟨_, _, _, _, rfl⟩
  rw [hr] at HM ⊢
  clear hQ hP hl hD hbt hT d2 hr
  go_enter Tryz.func40, Tryz.ntmps40
  go_wp2_with (first
    | (go_at_call 61; (with_reducible refine (H0.out _).mono ?_); rintro e w3 ⟨rfl, hw3⟩; obtain rfl := hw3.symm)
    | (go_at_call 62; (with_reducible refine (H1.out _).mono ?_); rintro e w3 ⟨rfl, hw3⟩; obtain rfl := hw3.symm)
    | (go_at_call 62; (with_reducible refine (H2.out _).mono ?_); rintro e w3 ⟨rfl, hw3⟩; obtain rfl := hw3.symm)
    | (go_at_call 63; (with_reducible refine (HL.out _ HB.out).mono ?_); rintro e w3 ⟨rfl, hb3⟩; have HB3 : Hid (Below w.heap.size w w3) := hb3; clear hb3)
    | (go_at_call 64; (with_reducible refine (HM.out _ HB3.out).mono ?_); rintro e w4 ⟨rfl, hb4⟩; have HB4 : Hid (Below w.heap.size w w4) := HB3.out.trans (hb4.mono HB3.out.size); clear hb4))
  refine bodyPost_ret (v := .tuple #[r0, r1, r2, r3]) (by simp [results, Tryz.results40, go_sem]) rfl ⟨rfl, HB4.out⟩
end Go.Proofs.YtnaipmgdipflgaaGreatDoor
