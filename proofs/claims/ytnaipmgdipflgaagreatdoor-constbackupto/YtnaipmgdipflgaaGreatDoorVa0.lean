import Derived.Test.YtnaipmgdipflgaaGreatDoorKdA
import Derived.Test.YtnaipmgdipflgaaGreatDoorRlE
import Derived.Test.YtnaipmgdipflgaaGreatDoorLm3
import Derived.Test.YtnaipmgdipflgaaGreatDoorRl1
namespace Go.Proofs.YtnaipmgdipflgaaGreatDoor
open Go.ChangeShapes Go.WideShapes Go.ChangeAt Go.RowKit Go.Maps Go.WideMaps
set_option linter.unusedVariables false
set_option linter.unusedSimpArgs false

def krV : Option Nat → Value
  | some k => .tuple #[.int .i64 (k : Int), .bool true]
  | none => .tuple #[.int .i64 0, .bool false]
set_option maxRecDepth 1000000 in
set_option maxHeartbeats 8000000 in
/-- the reference's Kind -/
theorem rKind_any (s : ByteArray) (hs : s.size ≤ 4294967280) (w : World) (hT : Lt w) :
    Calls Tryz.prog 17 #[.string s] w fun e w' => e = .returned (krV (kOf s)) ∧ Below w.heap.size w w' := by
  unfold kOf
  by_cases h0 : s.size = 0
  · rw [if_pos h0]
    have h0' : ((s.size : Int) == 0) = true := by rw [beq_iff_eq]; omega
    go_enter Tryz.func17, Tryz.ntmps17
    go_wp2
    refine bodyPost_ret (v := .tuple #[.int .i64 0, .bool false]) (by simp [results, Tryz.results17, go_sem]) rfl ⟨rfl, Below.refl _ _⟩
  · rw [if_neg h0]
    have h0' : ((s.size : Int) == 0) = false := by rw [beq_eq_false_iff_ne]; omega
    have hp : 0 < s.size := by omega
    have HP0 := rPiece_any s 0 hs hp w hT
    cases hc : pce s 0 with
    | no y z =>
      obtain ⟨y1, y2⟩ := pce_no_y hp hc
      rw [hc] at HP0
      have HP : Hid (Calls Tryz.prog 40 #[.string s, .int .i64 0] w fun e w' => e = .returned (.tuple #[.int .i64 0, .int .i64 0, .int .i64 (y : Int), .int .i64 (z : Int)]) ∧ Below w.heap.size w w') := HP0
      have hy : ((y : Int) != 0) = true := by rw [bne_iff_ne]; omega
      clear HP0 hc hT
      go_enter Tryz.func17, Tryz.ntmps17
      go_wp2_with (go_at_call 40; (with_reducible refine HP.out.mono ?_); rintro e w3 ⟨rfl, hb3⟩; have HB3 : Hid (Below w.heap.size w w3) := hb3; clear hb3)
      refine bodyPost_ret (v := .tuple #[.int .i64 0, .bool false]) (by simp [results, Tryz.results17, go_sem]) rfl ⟨rfl, HB3.out⟩
    | ok k t =>
      rw [hc] at HP0
      have HP : Hid (Calls Tryz.prog 40 #[.string s, .int .i64 0] w fun e w' => e = .returned (.tuple #[.int .i64 (k : Int), .int .i64 (t : Int), .int .i64 0, .int .i64 0]) ∧ Below w.heap.size w w') := HP0
      clear HP0 hc hT
      simp only
      by_cases h2 : 2 ≤ k ∧ t = s.size
      · rw [if_pos h2]
        have q1 : ¬ (k : Int) ≤ 1 := by omega
        have q2 : decide (k ≤ 1) = false := by rw [decide_eq_false_iff_not]; omega
        have q3 : decide ((k : Int) ≤ 1) = false := by rw [decide_eq_false_iff_not]; omega
        have q4 : ((t : Int) != (s.size : Int)) = false := by rw [h2.2]; simp
        clear h2
        go_enter Tryz.func17, Tryz.ntmps17
        go_wp2_with (go_at_call 40; (with_reducible refine HP.out.mono ?_); rintro e w3 ⟨rfl, hb3⟩; have HB3 : Hid (Below w.heap.size w w3) := hb3; clear hb3)
        refine bodyPost_ret (v := .tuple #[.int .i64 (k : Int), .bool true]) (by simp [results, Tryz.results17, go_sem]) rfl ⟨rfl, HB3.out⟩
      · rw [if_neg h2]
        have hcs : (decide (k ≤ 1) = true ∧ decide ((k : Int) ≤ 1) = true) ∨ ((decide (k ≤ 1) = false ∧ decide ((k : Int) ≤ 1) = false) ∧ ((t : Int) != (s.size : Int)) = true) := by
          by_cases h1 : k ≤ 1
          · left; constructor <;> (rw [decide_eq_true_eq]; omega)
          · right; exact ⟨by constructor <;> (rw [decide_eq_false_iff_not]; omega), by rw [bne_iff_ne]; omega⟩
        clear h2
        rcases hcs with ⟨q1, q2⟩ | ⟨⟨q1, q2⟩, q3⟩
        all_goals
          go_enter Tryz.func17, Tryz.ntmps17
          go_wp2_with (go_at_call 40; (with_reducible refine HP.out.mono ?_); rintro e w3 ⟨rfl, hb3⟩; have HB3 : Hid (Below w.heap.size w w3) := hb3; clear hb3)
          refine bodyPost_ret (v := .tuple #[.int .i64 0, .bool false]) (by simp [results, Tryz.results17, go_sem]) rfl ⟨rfl, HB3.out⟩
end Go.Proofs.YtnaipmgdipflgaaGreatDoor

namespace Go.Proofs.YtnaipmgdipflgaaGreatDoor
open Go.ChangeShapes Go.WideShapes Go.ChangeAt Go.RowKit Go.Maps Go.WideMaps
set_option linter.unusedVariables false
set_option linter.unusedSimpArgs false

/-- what the digits from a place on say, behind what was said; none: too great -/
def nvl (r : ByteArray) (b k acc : Nat) : Option Nat :=
  if h : k < r.size then
    (if bt r k = 95 then nvl r b (k + 1) acc else if (9223372036854775807 - dgv (bt r k)) / b < acc then none else nvl r b (k + 1) (acc * b + dgv (bt r k)))
  else some acc
termination_by r.size - k
theorem nvl_end {r : ByteArray} {b k acc : Nat} (h : ¬ k < r.size) : nvl r b k acc = some acc := by rw [nvl, dif_neg h]
theorem nvl_line {r : ByteArray} {b k acc : Nat} (h : k < r.size) (h95 : bt r k = 95) : nvl r b k acc = nvl r b (k + 1) acc := by rw [nvl, dif_pos h, if_pos h95]
theorem nvl_big {r : ByteArray} {b k acc : Nat} (h : k < r.size) (h95 : bt r k ≠ 95) (hg : (9223372036854775807 - dgv (bt r k)) / b < acc) : nvl r b k acc = none := by rw [nvl, dif_pos h, if_neg h95, if_pos hg]
theorem nvl_on {r : ByteArray} {b k acc : Nat} (h : k < r.size) (h95 : bt r k ≠ 95) (hg : ¬ (9223372036854775807 - dgv (bt r k)) / b < acc) : nvl r b k acc = nvl r b (k + 1) (acc * b + dgv (bt r k)) := by rw [nvl, dif_pos h, if_neg h95, if_neg hg]
/-- digits of a text's rest are the text's -/
theorem nvl_ext (r : ByteArray) (b o : Nat) (ho : o ≤ r.size) : ∀ m k acc, r.size - (o + k) ≤ m → nvl (r.extract o r.size) b k acc = nvl r b (o + k) acc
  | m, k, acc, hm => by
    have hz : (r.extract o r.size).size = r.size - o := by rw [ByteArray.size_extract]; omega
    have hb : bt (r.extract o r.size) k = bt r (o + k) := by
      rw [bt_ex _ _ _ _ (Nat.le_refl _)]
      by_cases h : o + k < r.size
      · rw [if_pos h]
      · rw [if_neg h, bt_out h]
    by_cases h : o + k < r.size
    · have h' : k < (r.extract o r.size).size := by omega
      match m, hm with
      | 0, hm => omega
      | m + 1, hm =>
        have ih := fun acc => nvl_ext r b o ho m (k + 1) acc (by omega)
        by_cases h95 : bt r (o + k) = 95
        · rw [nvl_line h h95, nvl_line h' (by rw [hb]; exact h95), ih]; rfl
        · by_cases hg : (9223372036854775807 - dgv (bt r (o + k))) / b < acc
          · rw [nvl_big h h95 hg, nvl_big h' (by rw [hb]; exact h95) (by rw [hb]; exact hg)]
          · rw [nvl_on h h95 hg, nvl_on h' (by rw [hb]; exact h95) (by rw [hb]; exact hg), ih, hb]; rfl
    · rw [nvl_end h, nvl_end (by omega)]
/-- all that stands in a number's digits -/
def Dgs (r : ByteArray) (b o : Nat) : Prop := ∀ j, o ≤ j → j < r.size → bt r j = 95 ∨ dgv (bt r j) < b
theorem nmL_dgs (r : ByteArray) (b off : Nat) : ∀ m k, r.size - k ≤ m → nmL r b off k = true → Dgs r b k
  | m, k, hm, h => by
    intro j hj hjs
    have hk : k < r.size := by omega
    rw [nmL, dif_pos hk] at h
    match m, hm with
    | 0, hm => omega
    | m + 1, hm =>
      by_cases h95 : bt r k = 95
      · rw [if_pos h95] at h
        split at h
        · cases h
        · by_cases e : k = j
          · subst e; exact .inl h95
          · exact nmL_dgs r b off m (k + 1) (by omega) h j (by omega) hjs
      · rw [if_neg h95] at h
        split at h
        · cases h
        · rename_i hd
          by_cases e : k = j
          · subst e; exact .inr (by omega)
          · exact nmL_dgs r b off m (k + 1) (by omega) h j (by omega) hjs
/-- a number's base, and where its digits begin -/
def nbs (s : ByteArray) : Nat := if 1 < s.size ∧ bt s 0 = 48 then bsl (bt s 1) else 10
def nof (s : ByteArray) : Nat := if 1 < s.size ∧ bt s 0 = 48 then 2 else 0
theorem num_facts {s : ByteArray} (h : num s = true) : 2 ≤ nbs s ∧ nbs s ≤ 16 ∧ nof s ≤ s.size ∧ 0 < s.size ∧ Dgs s (nbs s) (nof s) ∧ (1 < s.size ∧ bt s 0 = 48 → bsl (bt s 1) ≠ 0) := by
  unfold num at h
  unfold nbs nof
  by_cases hl : 1 < s.size ∧ bt s 0 = 48
  · rw [if_pos hl] at h ⊢
    rw [if_pos hl]
    split at h
    · cases h
    · rename_i hb
      have h1 := bsl_le (bt s 1)
      have h2 : 2 ≤ bsl (bt s 1) := by
        unfold bsl at hb ⊢
        repeat (first | omega | split | split at hb)
      exact ⟨h2, h1.1, by omega, by omega, nmL_dgs s _ 2 _ 2 (Nat.le_refl _) h, fun _ => by omega⟩
  · rw [if_neg hl] at h ⊢
    rw [if_neg hl]
    split at h
    · cases h
    · rename_i h0
      exact ⟨by omega, by omega, by omega, by omega, nmL_dgs s _ 0 _ 0 (Nat.le_refl _) h, fun e => absurd e hl⟩
/-- a number's value -/
def nVl (s : ByteArray) : Option Nat := nvl s (nbs s) (nof s) 0
theorem kOf_num {s : ByteArray} (h : kOf s = some 3) : num s = true := by
  obtain ⟨h0, hp, -, -, -, -⟩ := kOf_some h
  have hsh := pce_shape h0 hp
  have hrn : s.size = rnE s 0 := by rcases hsh with e | e | e | e | e | e <;> first | omega | exact e.2
  unfold pce at hp
  by_cases g1 : blk (bt s 0) = true
  · rw [if_pos g1] at hp; cases hp
  rw [if_neg g1] at hp
  by_cases g2 : bt s 0 = 47 ∧ bt s (0 + 1) = 47
  · rw [if_pos g2] at hp; cases hp
  rw [if_neg g2] at hp
  by_cases g3 : bt s 0 = 47 ∧ bt s (0 + 1) = 42
  · rw [if_pos g3] at hp
    cases hf : fn2 s 42 47 (0 + 2) <;> (rw [hf] at hp; cases hp)
  rw [if_neg g3] at hp
  by_cases g4 : isL (rn s 0) = true
  · rw [if_pos g4] at hp
    unfold nmP at hp
    split at hp
    · cases hp
    · have h1 := (Pce.ok.inj hp).1
      have := kwd_2 (s.extract 0 (rnE s 0)).data.toList
      omega
  rw [if_neg g4] at hp
  by_cases g5 : 48 ≤ bt s 0 ∧ bt s 0 ≤ 57
  · rw [if_pos g5] at hp
    unfold ruP at hp
    split at hp
    · rename_i hn
      rw [← hrn] at hn
      have : s.extract 0 s.size = s := by
        apply bt_all
        intro j
        rw [bt_ex _ _ _ _ (Nat.le_refl _), Nat.zero_add]
        by_cases hj : j < s.size
        · rw [if_pos hj]
        · rw [if_neg hj, bt_out hj]
      rw [this] at hn
      exact hn
    · cases hp
  rw [if_neg g5] at hp
  by_cases g6 : bt s 0 = 39 ∨ bt s 0 = 34 ∨ bt s 0 = 96
  · rw [if_pos g6] at hp
    unfold quP at hp
    split at hp
    · split at hp <;> cases hp
    · split at hp
      · cases hp
      · split at hp
        · cases hp
        · split at hp
          · cases hp
          · have := Pce.ok.inj hp
            split at this <;> omega
  rw [if_neg g6] at hp
  obtain ⟨n, n1, n2, -⟩ := mkP_ok h0 hp
  omega
end Go.Proofs.YtnaipmgdipflgaaGreatDoor
