import Derived.Test.YtfkjemeffjmioaaLs
import Derived.Deep.RegionHeld3
namespace Go.Proofs.Ytfkjemeffjmioaa
open Go.ChangeShapes Go.WideShapes Go.ChangeAt Go.RowKit
set_option linter.unusedVariables false

/-- of two numbers: -1, 0, 1 -/
def ci (x y : Int) : Int := if x < y then -1 else if y < x then 1 else 0

set_option maxHeartbeats 4000000 in
theorem nan_any (x : Int) (w : World) : Calls Try.prog 24 #[.int .i64 x] w fun e w' => e = .returned (.bool false) ∧ w' = w := by
  go_enter Try.func24, Try.ntmps24
  go_wp2
  go_ret
  exact ⟨rfl, rfl⟩

set_option maxHeartbeats 4000000 in
theorem icmp_any (x y : Int) (w : World) : Calls Try.prog 21 #[.int .i64 x, .int .i64 y] w fun e w' => e = .returned (.int .i64 (ci x y)) ∧ w' = w := by
  by_cases h1 : x < y
  · go_enter Try.func21, Try.ntmps21
    go_wp2_with (go_at_call 24; refine (nan_any _ _).mono ?_; rintro e w2 ⟨rfl, rfl⟩)
    go_ret
    exact ⟨by unfold ci; rw [if_pos h1]; rfl, rfl⟩
  · by_cases h2 : y < x
    · go_enter Try.func21, Try.ntmps21
      go_wp2_with (go_at_call 24; refine (nan_any _ _).mono ?_; rintro e w2 ⟨rfl, rfl⟩)
      go_ret
      exact ⟨by unfold ci; rw [if_neg (by omega), if_pos h2]; rfl, rfl⟩
    · go_enter Try.func21, Try.ntmps21
      go_wp2_with (go_at_call 24; refine (nan_any _ _).mono ?_; rintro e w2 ⟨rfl, rfl⟩)
      go_ret
      exact ⟨by unfold ci; rw [if_neg (by omega), if_neg (by omega)]; rfl, rfl⟩

set_option maxHeartbeats 4000000 in
theorem or_any (x y : Int) (g : Nat) (w : World) (h0 : w.cell? ⟨g, 0, none⟩ = some (.int .i64 x)) (h1 : w.cell? ⟨g, 1, none⟩ = some (.int .i64 y)) :
    Calls Try.prog 20 #[.slice (some ⟨g, 0, none⟩) 2 2] w fun e w' => e = .returned (.int .i64 (if x = 0 then y else x)) ∧ w' = w := by
  go_enter Try.func20, Try.ntmps20
  go_wp2
  go_loop [8, 5] (fun vi _ => ∃ k : Nat, k ≤ 2 ∧ vi = .int .i64 k ∧ (1 ≤ k → x = 0) ∧ (2 ≤ k → y = 0)) (fun vi _ => 2 - (RowKit.intOf vi).toNat)
  case atStart => exact ⟨0, by omega, rfl, by omega, by omega⟩
  case round =>
    obtain ⟨k, hk, rfl, hx, hy⟩ := hrel
    have HX : Hid (1 ≤ k → x = 0) := hx
    have HY : Hid (2 ≤ k → y = 0) := hy
    clear hx hy
    obtain rfl | rfl | rfl : k = 0 ∨ k = 1 ∨ k = 2 := by omega
    · by_cases h : x = 0
      · subst h
        go_wp2
        refine ⟨⟨1, by omega, rfl, fun _ => by trivial, fun h => by omega⟩, ?_⟩
        simp [RowKit.intOf]
      · go_wp2
        go_ret
        exact ⟨by first | rfl | (rw [if_neg h]; rfl), rfl⟩
    · have h := HX.out (by omega)
      subst h
      by_cases h : y = 0
      · subst h
        go_wp2
        refine ⟨⟨2, by omega, rfl, fun _ => by trivial, fun _ => by trivial⟩, ?_⟩
        simp [RowKit.intOf]
      · go_wp2
        go_ret
        exact ⟨by first | rfl | (rw [if_pos rfl]; rfl), rfl⟩
    · have h := HX.out (by omega)
      have h' := HY.out (by omega)
      subst h h'
      go_wp2
      go_ret
      exact ⟨by first | rfl | (rw [if_pos rfl]; rfl), rfl⟩

set_option maxHeartbeats 4000000 in
theorem rRight_any (x : Vl) (w : World) :
    Calls Try.prog 13 #[x.v] w fun e w' => e = .returned (.bool (rgt x)) ∧ Below w.heap.size w w' := by
  obtain ⟨k, b, i, s⟩ := x
  show Calls Try.prog 13 #[.agg #[.int .u8 k, .bool b, .int .i64 i, .string s]] w _
  have HC : Hid ((k = 1 ∧ i = 0 ∧ s.toList = []) ∨ (k = 1 ∧ i ≠ 0) ∨ (k = 1 ∧ i = 0 ∧ s.toList ≠ []) ∨ (k = 2 ∧ b = true) ∨ (k = 2 ∧ b = false ∧ s.toList = []) ∨ (k = 2 ∧ b = false ∧ s.toList ≠ []) ∨
      (k = 3 ∧ b = true) ∨ (k = 3 ∧ b = false ∧ i = 0) ∨ (k = 3 ∧ b = false ∧ i ≠ 0) ∨ (k ≠ 1 ∧ k ≠ 2 ∧ k ≠ 3)) := by
    unfold Hid; cases b <;> by_cases h1 : k = 1 <;> by_cases h2 : k = 2 <;> by_cases h3 : k = 3 <;> by_cases h4 : i = 0 <;> by_cases h5 : s.toList = [] <;> simp_all
  rcases HC.out with ⟨rfl, rfl, h3⟩ | ⟨rfl, h2⟩ | ⟨rfl, rfl, h3⟩ | ⟨rfl, rfl⟩ | ⟨rfl, rfl, h3⟩ | ⟨rfl, rfl, h3⟩ | ⟨rfl, rfl⟩ | ⟨rfl, rfl, rfl⟩ | ⟨rfl, rfl, h2⟩ | ⟨h1, h2, h3⟩
  all_goals clear HC
  all_goals go_enter Try.func13, Try.ntmps13
  all_goals go_wp2
  all_goals go_ret
  all_goals refine ⟨?_, by go_grown⟩
  all_goals (simp [rgt, *] <;> done)

/-- byte by byte -/
def bfr : List UInt8 → List UInt8 → Bool
  | [], [] => false
  | [], _ :: _ => true
  | _ :: _, [] => false
  | x :: r, y :: t => if x = y then bfr r t else decide (x < y)

theorem bfr_cmp : ∀ a b : List UInt8, bfr a b = decide (Lib.compareBytes a b < 0)
  | [], [] => by simp [bfr, Lib.compareBytes]
  | [], _ :: _ => by simp [bfr, Lib.compareBytes]
  | _ :: _, [] => by simp [bfr, Lib.compareBytes]
  | x :: r, y :: t => by
    unfold bfr Lib.compareBytes
    by_cases h : x = y
    · subst h
      rw [if_pos rfl, if_neg (by simp), if_neg (by simp)]
      exact bfr_cmp r t
    · rw [if_neg h]
      by_cases h1 : x < y
      · rw [if_pos h1]; simp [h1]
      · have h2 : y < x := by
          rcases UInt8.lt_or_lt_of_ne h with h3 | h3
          · exact absurd h3 h1
          · exact h3
        rw [if_neg h1, if_pos h2]; simp [h1]

theorem bel_drewN {B : Nat} (W : World) (q : Nat) : Below B W (W.drewN q) := ⟨rfl, rfl, rfl, Nat.le_refl _, fun _ _ => rfl⟩
theorem drop_at (a : ByteArray) (k : Nat) (h : k < a.size) : a.data.toList.drop k = a[k] :: a.data.toList.drop (k + 1) := by
  have hl : k < a.data.toList.length := by rw [Array.length_toList]; exact h
  rw [List.drop_eq_getElem_cons hl]
  rfl
theorem drop_end (a : ByteArray) (k : Nat) (h : a.size ≤ k) : a.data.toList.drop k = [] := by
  rw [List.drop_eq_nil_iff, Array.length_toList]; exact h

set_option maxHeartbeats 4000000 in
theorem before_any (a b : ByteArray) (w : World) (ha : a.size ≤ 140737488351232) (hb : b.size ≤ 140737488351232) :
    Calls Try.prog 23 #[.string a, .string b] w fun e w' => e = .returned (.bool (bfr a.data.toList b.data.toList)) ∧ Below w.heap.size w w' := by
  go_enter Try.func23, Try.ntmps23
  go_wp2
  go_loopw [5] (fun vi wr => ∃ k : Nat, k ≤ a.size ∧ k ≤ b.size ∧ vi = .int .i64 k ∧ Hid (bfr a.data.toList b.data.toList = bfr (a.data.toList.drop k) (b.data.toList.drop k)) ∧ Hid (Below w.heap.size w wr)) (fun vi _ => a.size - (RowKit.intOf vi).toNat)
  case atStart => exact ⟨0, by omega, by omega, rfl, by unfold Hid; simp, Below.refl _ _⟩
  case round =>
    obtain ⟨k, hk1, hk2, rfl, hh, HB⟩ := hrel
    by_cases h1 : k < a.size
    · by_cases h2 : k < b.size
      · have HD : Hid (bfr (a.data.toList.drop k) (b.data.toList.drop k) = if a[k] = b[k] then bfr (a.data.toList.drop (k + 1)) (b.data.toList.drop (k + 1)) else decide (a[k] < b[k])) := by
          unfold Hid; rw [drop_at a k h1, drop_at b k h2]; rfl
        by_cases h3 : a[k] = b[k]
        · have HH : Hid (bfr a.data.toList b.data.toList = bfr (a.data.toList.drop (k + 1)) (b.data.toList.drop (k + 1))) := by
            unfold Hid; rw [hh.out, HD.out, if_pos h3]
          have n1 : (k : Int) < (a.size : Int) := by omega
          have n2 : (k : Int) < (b.size : Int) := by omega
          go_upto_region 4 with fail
          go_quiet (fail)
          go_wp2
          go_roundw
          case measure => simp [RowKit.intOf]; omega
          case rel => exact ⟨k + 1, by omega, by omega, by first | rfl | (congr 1), HH.out, HB.out.trans (bel_drewN _ _)⟩
        · have HH : Hid (bfr a.data.toList b.data.toList = decide (a[k] < b[k])) := by
            unfold Hid; rw [hh.out, HD.out, if_neg h3]
          have h4 : ((a[k].toNat : Int) == (b[k].toNat : Int)) = false := by
            rw [beq_eq_false_iff_ne]; intro h; exact h3 (UInt8.toNat_inj.1 (by omega))
          have h5 : ((a[k].toNat : Int) != (b[k].toNat : Int)) = true := by rw [bne, h4]; rfl
          have n1 : (k : Int) < (a.size : Int) := by omega
          have n2 : (k : Int) < (b.size : Int) := by omega
          clear HD h3
          go_upto_region 4 with fail
          go_quiet (fail)
          go_upto_region 5 with fail
          go_quiet (fail)
          go_wp2
          go_ret
          refine ⟨?_, HB.out.trans ((bel_drewN _ _).trans (bel_drewN _ _))⟩
          rw [HH.out]
          exact congrArg (fun q => Ending.returned (.bool q)) (decide_eq_decide.2 UInt8.lt_iff_toNat_lt.symm)
      · have HH : Hid (bfr a.data.toList b.data.toList = false) := by
          unfold Hid; rw [hh.out, drop_end b k (by omega), drop_at a k h1]; rfl
        have e : k = b.size := by omega
        go_wp2
        go_ret
        refine ⟨?_, HB.out⟩
        rw [HH.out]
        exact congrArg (fun q => Ending.returned (.bool q)) (decide_eq_false (by omega))
    · by_cases h2 : k < b.size
      · have HH : Hid (bfr a.data.toList b.data.toList = true) := by
          unfold Hid; rw [hh.out, drop_end a k (by omega), drop_at b k h2]; rfl
        go_wp2
        go_ret
        refine ⟨?_, HB.out⟩
        rw [HH.out]
        exact congrArg (fun q => Ending.returned (.bool q)) (decide_eq_true (by omega))
      · have HH : Hid (bfr a.data.toList b.data.toList = false) := by
          unfold Hid; rw [hh.out, drop_end a k (by omega), drop_end b k (by omega)]; rfl
        go_wp2
        go_ret
        refine ⟨?_, HB.out⟩
        rw [HH.out]
        exact congrArg (fun q => Ending.returned (.bool q)) (decide_eq_false (by omega))
end Go.Proofs.Ytfkjemeffjmioaa
