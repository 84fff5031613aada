import Derived.Test.YthdfccdkomfikaaGreatDoorLmz
import Derived.Test.YthdfccdkomfikaaGreatDoorLmv
import Derived.Test.YthdfccdkomfikaaGreatDoorLc2
import Derived.Test.YthdfccdkomfikaaGreatDoorRl6
import Derived.Test.YthdfccdkomfikaaGreatDoorLmu
namespace Go.Proofs.YthdfccdkomfikaaGreatDoor
open Go.ChangeShapes Go.WideShapes Go.ChangeAt Go.RowKit Go.Maps Go.WideMaps
set_option linter.unusedVariables false
set_option linter.unusedSimpArgs false

theorem hid_of {p : Prop} (h : p) : Hid p := h
def MaxL (w : World) : Prop := ∃ m, w.cell? ⟨4, 0, none⟩ = some (.int .i64 m)
theorem MaxL.below {w w' : World} (h : MaxL w) (hb : Below w.heap.size w w') : MaxL w' := by
  obtain ⟨m, hm⟩ := h
  exact ⟨m, (hb.cell (p := ⟨4, 0, none⟩) (World.block_lt_of_cell? _ _ hm)).trans hm⟩
/-- Scan of a text with a fault -/
theorem scan_no {s : ByteArray} (hs : s.size ≤ 4294967280) {y z : Nat} (hc : (cut s 0).2 = some (y, z)) (w : World) (hS : Spl w) (hT : Lt w) (hM : MaxL w) :
    Calls Tryz.prog 6 #[.string s] w fun e w' => e = .returned (.tuple #[.slice none 0 0, .agg #[.int .i64 (y : Int), .int .i64 0, .int .i64 (z : Int)]]) ∧ Below w.heap.size w w' := by
  refine (Scan_any s hs w hS hT hM).mono fun e w' h => ?_
  unfold SnE at h
  rw [hc] at h
  exact ⟨h.2, h.1⟩
/-- .. and of one without -/
theorem scan_ok {s : ByteArray} (hs : s.size ≤ 4294967280) (hc : (cut s 0).2 = none) (w : World) (hS : Spl w) (hT : Lt w) (hM : MaxL w) :
    Calls Tryz.prog 6 #[.string s] w fun e w' => ∃ a c, e = .returned (.tuple #[.slice a (wau s (cut s 0).1).length c, .agg #[.int .i64 0, .int .i64 0, .int .i64 0]]) ∧ LiesA w' a (wau s (cut s 0).1) ∧ (wau s (cut s 0).1).length ≤ c ∧ (a = none → c = 0) ∧ Below w.heap.size w w' := by
  refine (Scan_any s hs w hS hT hM).mono fun e w' h => ?_
  unfold SnE at h
  rw [hc] at h
  obtain ⟨hb, v, he, ho⟩ := h
  obtain ⟨a, c, rfl, hl, -, hn⟩ := own_form ho
  refine ⟨a, c, he, hl, ?_, fun h => (hn h).2, hb⟩
  rcases ho.2 with ⟨h1, h2⟩ | ⟨g, cap, cur, hv, hg, hh, hcap, -⟩
  · omega
  · cases hv; exact hcap
theorem wau_pos {s : ByteArray} (hc : (cut s 0).2 = none) (h : 0 < s.size) : 0 < (wau s (cut s 0).1).length := by
  cases hp : pce s 0 with
  | no y z => rw [cut_no h hp] at hc; cases hc
  | ok k t => rw [cut_ok h hp]; simp [wau]

theorem wau_len (s : ByteArray) : ∀ l, (wau s l).length ≤ 2 * l.length
  | [] => by simp [wau]
  | q :: r => by
    have := wau_len s r
    rw [wau]
    split <;> simp <;> omega
theorem wau_max {s : ByteArray} (hs : s.size ≤ 4294967280) : (wau s (cut s 0).1).length ≤ 8589934560 := by
  have h1 := wau_len s (cut s 0).1
  have h2 := (cut_all s s.size 0 (by omega)).2
  omega
end Go.Proofs.YthdfccdkomfikaaGreatDoor

namespace Go.Proofs.YthdfccdkomfikaaGreatDoor
open Go.ChangeShapes Go.WideShapes Go.ChangeAt Go.RowKit Go.Maps Go.WideMaps
set_option linter.unusedVariables false
set_option linter.unusedSimpArgs false

/-- the kind of a text that is one token -/
def kOf (s : ByteArray) : Option Nat := if s.size = 0 then none else match pce s 0 with
  | .ok k t => if 2 ≤ k ∧ t = s.size then some k else none
  | .no _ _ => none
def kV : Option Nat → Value
  | some k => .tuple #[.int .u8 (k : Int), .bool true]
  | none => .tuple #[.int .u8 0, .bool false]
theorem kOf_some {s : ByteArray} {k : Nat} (h : kOf s = some k) : 0 < s.size ∧ pce s 0 = .ok k s.size ∧ 2 ≤ k ∧ k < 80 ∧ k ≠ 6 ∧ cut s 0 = ([(⟨k, 0, s.size⟩ : Tk)], none) := by
  unfold kOf at h
  split at h
  · cases h
  · rename_i h0
    have hp : 0 < s.size := by omega
    cases hc : pce s 0 with
    | no y z => rw [hc] at h; cases h
    | ok k' t =>
      rw [hc] at h
      simp only at h
      split at h
      · rename_i h2
        cases h
        obtain ⟨h3, rfl⟩ := h2
        have h6 : k ≠ 6 := by rcases pce_shape hp hc with e | e | e | e | e | e <;> omega
        refine ⟨hp, rfl, h3, (pce_ok hp hc).2.2, h6, ?_⟩
        rw [cut_ok hp hc, cut_end (by omega)]
        rfl
      · cases h
/-- a text that is no token has another list -/
theorem kOf_none {s : ByteArray} (h : kOf s = none) (hn : (cut s 0).2 = none) : wau s (cut s 0).1 = [] ∨ (∃ k f t : Nat, wau s (cut s 0).1 = [(⟨k, f, t⟩ : Tk)] ∧ (k = 0 ∨ k = 1)) ∨ (∃ (q : Tk) (k f t : Nat), wau s (cut s 0).1 = [q, ⟨k, f, t⟩] ∧ k ≠ 6) ∨ 3 ≤ (wau s (cut s 0).1).length := by
  by_cases hp : 0 < s.size
  · cases hc : pce s 0 with
    | no y z => rw [cut_no hp hc] at hn; cases hn
    | ok k t =>
      obtain ⟨t1, t2, t3⟩ := pce_ok hp hc
      rw [cut_ok hp hc] at hn ⊢
      simp only at hn ⊢
      by_cases ht : t = s.size
      · have hk : ¬ 2 ≤ k := by
          intro h2
          unfold kOf at h
          rw [if_neg (by omega), hc] at h
          simp only at h
          rw [if_pos ⟨h2, ht⟩] at h
          cases h
        have ha : ask k = false := by
          have : ∀ k, k < 2 → ask k = false := by decide
          exact this k (by omega)
        right; left
        refine ⟨k, 0, t, ?_, by omega⟩
        rw [cut_end (by omega)]
        simp [wau, ha]
      · have htl : t < s.size := by omega
        cases hc2 : pce s t with
        | no y z => rw [cut_no htl hc2] at hn; cases hn
        | ok k2 tt =>
          have h6 : k2 ≠ 6 := by rcases pce_shape htl hc2 with e | e | e | e | e | e <;> omega
          right; right
          rw [cut_ok htl hc2]
          simp only [wau, Int.toNat_natCast]
          split
          · right; simp
          · split
            · right; simp
            · cases hr : wau s (cut s tt).1 with
              | nil => left; exact ⟨⟨k, 0, t⟩, k2, t, tt, by simp [hr], h6⟩
              | cons x r => right; simp [hr]
  · left; rw [cut_end hp]; rfl

set_option maxRecDepth 1000000 in
set_option maxHeartbeats 8000000 in
theorem Kind_any (s : ByteArray) (hs : s.size ≤ 4294967280) (w : World) (hS : Spl w) (hT : Lt w) (hM : MaxL w) :
    Calls Tryz.prog 7 #[.string s] w fun e w' => e = .returned (kV (kOf s)) ∧ Below w.heap.size w w' := by
  cases hk : kOf s with
  | some k =>
    obtain ⟨h1, h2, h3, h4, h5, h6⟩ := kOf_some hk
    exact Kind_one k h3 h4 s hs h6 w hS hT hM
  | none =>
    cases hC : (cut s 0).2 with
    | some x =>
      obtain ⟨y, z⟩ := x
      have HS1 : Hid (Calls Tryz.prog 6 #[.string s] w fun e w' => e = .returned (.tuple #[.slice none 0 0, .agg #[.int .i64 (y : Int), .int .i64 0, .int .i64 (z : Int)]]) ∧ Below w.heap.size w w') := scan_no hs hC w hS hT hM
      clear hk hC hS hT hM
      go_enter Tryz.func7, Tryz.ntmps7
      go_wp2_with (go_at_call 6; (with_reducible refine HS1.out.mono ?_); rintro e w3 ⟨rfl, hb3⟩; have HB3 : Hid (Below w.heap.size w w3) := hb3; clear hb3)
      go_ret2
      exact ⟨rfl, HB3.out.alloc HB3.out.size _⟩
    | none =>
      have hcs := kOf_none hk hC
      obtain ⟨L, hL⟩ : ∃ L, wau s (cut s 0).1 = L := ⟨_, rfl⟩
      have HS1 : Hid (Calls Tryz.prog 6 #[.string s] w fun e w' => ∃ a c, e = .returned (.tuple #[.slice a L.length c, .agg #[.int .i64 0, .int .i64 0, .int .i64 0]]) ∧ LiesA w' a L ∧ L.length ≤ c ∧ (a = none → c = 0) ∧ Below w.heap.size w w') := by rw [← hL]; exact scan_ok hs hC w hS hT hM
      rw [hL] at hcs
      clear hk hC hS hT hM hL
      rcases hcs with rfl | ⟨k, f, t, rfl, hk⟩ | ⟨q, k, f, t, rfl, hk⟩ | hl
      · go_enter Tryz.func7, Tryz.ntmps7
        go_wp2_with (go_at_call 6; (with_reducible refine HS1.out.mono ?_); rintro e w3 ⟨a3, c3, rfl, hl3, hc3, hn3, hb3⟩; have HB3 : Hid (Below w.heap.size w w3) := hb3; clear hb3 hl3 hn3)
        go_ret2
        exact ⟨rfl, HB3.out.alloc HB3.out.size _⟩
      · have HIT : Hid (∀ v, Calls Tryz.prog 19 #[.int .u8 (k : Int)] v fun e w' => e = .returned (.bool false) ∧ w' = v) := fun v => isTok_no k hk v
        go_enter Tryz.func7, Tryz.ntmps7
        go_wp2_with (first
          | (go_at_call 6; (with_reducible refine HS1.out.mono ?_); rintro e w3 ⟨a3, c3, rfl, hl3, hc3, hn3, hb3⟩; have HB3 : Hid (Below w.heap.size w w3) := hb3; obtain ⟨g, o, rfl, hlg⟩ : ∃ g o, a3 = some ⟨g, o, none⟩ ∧ Lies w3 g o [(⟨k, f, t⟩ : Tk)] := (by rcases hl3 with h | h; (· cases h); exact h); have d0 : w3.cell? ⟨g, o, none⟩ = some (.int .u8 (k : Int)) := (hlg.tk (Below.refl _ _) (i := 0) rfl).1; have dz := hlg.1; clear hb3 hl3 hn3 hlg)
          | (go_at_call 19; (with_reducible refine (HIT.out _).mono ?_); rintro e w5 ⟨rfl, hw5⟩; subst hw5))
        go_ret2
        exact ⟨rfl, HB3.out.alloc HB3.out.size _⟩
      · have hk6 : ((k : Int) == 6) = false := by rw [beq_eq_false_iff_ne]; omega
        go_enter Tryz.func7, Tryz.ntmps7
        go_wp2_with (go_at_call 6; (with_reducible refine HS1.out.mono ?_); rintro e w3 ⟨a3, c3, rfl, hl3, hc3, hn3, hb3⟩; have HB3 : Hid (Below w.heap.size w w3) := hb3; obtain ⟨g, o, rfl, hlg⟩ : ∃ g o, a3 = some ⟨g, o, none⟩ ∧ Lies w3 g o [q, (⟨k, f, t⟩ : Tk)] := (by rcases hl3 with h | h; (· cases h); exact h); have d0 : w3.cell? ⟨g, o + 3, none⟩ = some (.int .u8 (k : Int)) := (hlg.tk (Below.refl _ _) (i := 1) rfl).1; have dz := hlg.1; clear hb3 hl3 hn3 hlg)
        go_ret2
        exact ⟨rfl, HB3.out.alloc HB3.out.size _⟩
      · have h1 : ((L.length : Int) == 1) = false := by rw [beq_eq_false_iff_ne]; omega
        have h2 : ((L.length : Int) == 2) = false := by rw [beq_eq_false_iff_ne]; omega
        go_enter Tryz.func7, Tryz.ntmps7
        go_wp2_with (go_at_call 6; (with_reducible refine HS1.out.mono ?_); rintro e w3 ⟨a3, c3, rfl, hl3, hc3, hn3, hb3⟩; have HB3 : Hid (Below w.heap.size w w3) := hb3; clear hb3 hl3 hn3)
        go_ret2
        exact ⟨rfl, HB3.out.alloc HB3.out.size _⟩
def kIs (s : ByteArray) (n : Nat) : Bool := decide (kOf s = some n)
set_option maxRecDepth 1000000 in
set_option maxHeartbeats 8000000 in
theorem isOf_any (s : ByteArray) (n : Nat) (hn : n < 80) (hs : s.size ≤ 4294967280) (w : World) (hS : Spl w) (hT : Lt w) (hM : MaxL w) :
    Calls Tryz.prog 21 #[.string s, .int .u8 (n : Int)] w fun e w' => e = .returned (.bool (kIs s n)) ∧ Below w.heap.size w w' := by
  have HK0 := Kind_any s hs w hS hT hM
  unfold kIs
  cases hk : kOf s with
  | none =>
    rw [hk] at HK0
    have HK : Hid (Calls Tryz.prog 7 #[.string s] w fun e w' => e = .returned (.tuple #[.int .u8 0, .bool false]) ∧ Below w.heap.size w w') := HK0
    clear HK0 hk hS hT hM
    go_enter Tryz.func21, Tryz.ntmps21
    go_wp2_with (go_at_call 7; (with_reducible refine HK.out.mono ?_); rintro e w3 ⟨rfl, hb3⟩; have HB3 : Hid (Below w.heap.size w w3) := hb3; clear hb3)
    go_ret
    exact ⟨rfl, HB3.out⟩
  | some k =>
    rw [hk] at HK0
    have HK : Hid (Calls Tryz.prog 7 #[.string s] w fun e w' => e = .returned (.tuple #[.int .u8 (k : Int), .bool true]) ∧ Below w.heap.size w w') := HK0
    obtain ⟨z, hz⟩ : ∃ z, decide (some k = some n) = z := ⟨_, rfl⟩
    rw [hz]
    have hq : ((k : Int) == (n : Int)) = z := by
      rw [← hz]
      by_cases h : k = n
      · subst h; simp
      · rw [beq_eq_false_iff_ne.2 (by omega), decide_eq_false (by simpa using h)]
    clear HK0 hk hS hT hM hz
    cases z
    all_goals
      go_enter Tryz.func21, Tryz.ntmps21
      go_wp2_with (go_at_call 7; (with_reducible refine HK.out.mono ?_); rintro e w3 ⟨rfl, hb3⟩; have HB3 : Hid (Below w.heap.size w w3) := hb3; clear hb3)
      go_ret
      exact ⟨rfl, HB3.out⟩
end Go.Proofs.YthdfccdkomfikaaGreatDoor

namespace Go.Proofs.YthdfccdkomfikaaGreatDoor
open Go.ChangeShapes Go.WideShapes Go.ChangeAt Go.RowKit
set_option linter.unusedVariables false
set_option linter.unusedSimpArgs false

theorem mks48 : mks.length = 48 := by decide
theorem wds25 : wds.length = 25 := by decide
/-- the spelling of a kind, as the reference has it -/
def spR (k : Nat) : List UInt8 := if k < 7 then [] else if k < 32 then wds.getD (k - 7) [] else mks.getD (k - 32) []
theorem spR_80 (k : Nat) (h : 80 ≤ k) : spR k = [] := by
  unfold spR
  rw [if_neg (by omega), if_neg (by omega), List.getD_eq_getElem?_getD, List.getElem?_eq_none (by rw [mks48]; omega)]
  rfl
set_option maxRecDepth 1000000 in
set_option maxHeartbeats 8000000 in
theorem rSpell_any (k : Nat) (w : World) (hkb : k < 1000) :
    Calls Tryz.prog 14 #[.int .i64 (k : Int)] w fun e w' => e = .returned (.string ⟨(spR k).toArray⟩) ∧ Below w.heap.size w w' := by
  obtain ⟨w1, e1⟩ : ∃ w1, w.alloc (.cells (strV wds).toArray 9) = w1 := ⟨_, rfl⟩
  obtain ⟨w2, e2⟩ : ∃ w2, w1.alloc (.cells (strV mks).toArray 9) = w2 := ⟨_, rfl⟩
  have hb1 : Below w.heap.size w w1 := by rw [← e1]; exact (Below.refl _ _).alloc (Nat.le_refl _) _
  have hz1 : w1.heap.size = w.heap.size + 1 := by rw [← e1]; simp
  have hb2 : Below w.heap.size w w2 := by rw [← e2]; exact hb1.alloc hb1.size _
  have HB2 : Hid (Below w.heap.size w w2) := hb2
  have HW : Hid (Calls Tryz.prog 24 #[] w fun e w' => e = .returned (.slice (some ⟨w.heap.size, 0, none⟩) 25 25) ∧ w' = w1) := by rw [← e1]; exact words_any w
  have HM : Hid (Calls Tryz.prog 25 #[] w1 fun e w' => e = .returned (.slice (some ⟨w1.heap.size, 0, none⟩) 48 48) ∧ w' = w2) := by rw [← e2]; exact marks_any w1
  have hm : ∀ i, i < 48 → w2.cell? ⟨w1.heap.size, i, none⟩ = some (.string ⟨(mks.getD i []).toArray⟩) := fun i hi => by rw [← e2]; exact strV_get mks i (Nat.lt_of_lt_of_eq hi mks48.symm) w1
  have hw : ∀ i, i < 25 → w2.cell? ⟨w.heap.size, i, none⟩ = some (.string ⟨(wds.getD i []).toArray⟩) := fun i hi => by
    have h1 : w1.cell? ⟨w.heap.size, i, none⟩ = some (.string ⟨(wds.getD i []).toArray⟩) := by rw [← e1]; exact strV_get wds i (Nat.lt_of_lt_of_eq hi wds25.symm) w
    rw [← e2]
    exact (((Below.refl w1.heap.size w1).alloc (Nat.le_refl _) (.cells (strV mks).toArray 9)).cell (p := ⟨w.heap.size, i, none⟩) (by show w.heap.size < w1.heap.size; omega)).trans h1
  clear e1 e2 hb1 hb2
  obtain ⟨g, hg⟩ : ∃ g, w1.heap.size = g := ⟨_, rfl⟩
  rw [hg] at HM hm hz1
  obtain ⟨S, hS⟩ : ∃ S : ByteArray, (⟨(spR k).toArray⟩ : ByteArray) = S := ⟨_, rfl⟩
  rw [hS]
  clear hz1 hg
  by_cases h7 : k < 7
  · have hs : spR k = [] := by unfold spR; rw [if_pos h7]
    rw [hs] at hS
    have c1 : ¬ (k : Int) ≥ 7 := by omega
    have c2 : ¬ (k : Int) ≥ 32 := by omega
    subst hS
    clear hm hw hs h7 hkb
    go_enter Tryz.func14, Tryz.ntmps14
    go_wp2_with (first
      | (go_at_call 24; (with_reducible refine HW.out.mono ?_); rintro e w3 ⟨rfl, hw3⟩; subst hw3)
      | (go_at_call 25; (with_reducible refine HM.out.mono ?_); rintro e w3 ⟨rfl, hw3⟩; subst hw3))
    go_ret
    exact ⟨rfl, HB2.out⟩
  by_cases h32 : k < 32
  · have hs : spR k = wds.getD (k - 7) [] := by unfold spR; rw [if_neg h7, if_pos h32]
    rw [hs] at hS
    have c1 : (k : Int) ≥ 7 := by omega
    have c2 : (k : Int) < 32 := by omega
    obtain ⟨i, hi⟩ : ∃ i, k - 7 = i := ⟨_, rfl⟩
    have hki : (k : Int) - 7 = (i : Int) := by omega
    have hc := hw i (by omega)
    rw [hi] at hS
    rw [hS] at hc
    have ci : (i : Int) < 25 := by omega
    have ci2 : i < 25 := by omega
    clear hm hw hs h7 h32 hkb hi hS
    go_enter Tryz.func14, Tryz.ntmps14
    go_wp2_with (first
      | (go_at_call 24; (with_reducible refine HW.out.mono ?_); rintro e w3 ⟨rfl, hw3⟩; subst hw3)
      | (go_at_call 25; (with_reducible refine HM.out.mono ?_); rintro e w3 ⟨rfl, hw3⟩; subst hw3))
    go_ret
    exact ⟨rfl, HB2.out⟩
  by_cases h80 : k < 80
  · have hs : spR k = mks.getD (k - 32) [] := by unfold spR; rw [if_neg h7, if_neg h32]
    rw [hs] at hS
    have c1 : (k : Int) ≥ 7 := by omega
    have c2 : ¬ (k : Int) < 32 := by omega
    have c3 : (k : Int) ≥ 32 := by omega
    have c4 : (k : Int) < 80 := by omega
    obtain ⟨i, hi⟩ : ∃ i, k - 32 = i := ⟨_, rfl⟩
    have hki : (k : Int) - 32 = (i : Int) := by omega
    have hc := hm i (by omega)
    rw [hi] at hS
    rw [hS] at hc
    have ci : (i : Int) < 48 := by omega
    have ci2 : i < 48 := by omega
    clear hm hw hs h7 h32 hkb hi hS h80
    go_enter Tryz.func14, Tryz.ntmps14
    go_wp2_with (first
      | (go_at_call 24; (with_reducible refine HW.out.mono ?_); rintro e w3 ⟨rfl, hw3⟩; subst hw3)
      | (go_at_call 25; (with_reducible refine HM.out.mono ?_); rintro e w3 ⟨rfl, hw3⟩; subst hw3))
    go_ret
    exact ⟨rfl, HB2.out⟩
  · rw [spR_80 k (by omega)] at hS
    have c1 : (k : Int) ≥ 7 := by omega
    have c2 : ¬ (k : Int) < 32 := by omega
    have c3 : (k : Int) ≥ 32 := by omega
    have c4 : ¬ (k : Int) < 80 := by omega
    subst hS
    clear hm hw h7 h32 h80
    go_enter Tryz.func14, Tryz.ntmps14
    go_wp2_with (first
      | (go_at_call 24; (with_reducible refine HW.out.mono ?_); rintro e w3 ⟨rfl, hw3⟩; subst hw3)
      | (go_at_call 25; (with_reducible refine HM.out.mono ?_); rintro e w3 ⟨rfl, hw3⟩; subst hw3))
    go_ret
    exact ⟨rfl, HB2.out⟩
end Go.Proofs.YthdfccdkomfikaaGreatDoor

namespace Go.Proofs.YthdfccdkomfikaaGreatDoor
open Go.ChangeShapes Go.WideShapes Go.ChangeAt Go.RowKit Go.Maps Go.WideMaps
set_option linter.unusedVariables false
set_option linter.unusedSimpArgs false

/-- why and where a list ends -/
def fwy (o : Option (Nat × Nat)) : Nat := match o with | none => 0 | some x => x.1
def fat (o : Option (Nat × Nat)) : Nat := match o with | none => 0 | some x => x.2
/-- Scan of any text, whatever it answers -/
theorem scan_all {s : ByteArray} (hs : s.size ≤ 4294967280) (w : World) (hS : Spl w) (hT : Lt w) (hM : MaxL w) :
    Calls Tryz.prog 6 #[.string s] w fun e w' => ∃ a n c, e = .returned (.tuple #[.slice a n c, .agg #[.int .i64 (fwy (cut s 0).2 : Int), .int .i64 0, .int .i64 (fat (cut s 0).2 : Int)]]) ∧ Below w.heap.size w w' := by
  cases hc : (cut s 0).2 with
  | none =>
    refine (scan_ok hs hc w hS hT hM).mono fun e w' h => ?_
    obtain ⟨a, c, he, -, -, -, hb⟩ := h
    exact ⟨a, _, c, he, hb⟩
  | some x =>
    obtain ⟨y, z⟩ := x
    refine (scan_no hs hc w hS hT hM).mono fun e w' h => ?_
    exact ⟨none, 0, 0, h.1, h.2⟩
theorem cut_why {s : ByteArray} {y z : Nat} (h : (cut s 0).2 = some (y, z)) : 20 ≤ y ∧ y ≤ 24 ∧ z < s.size := by
  obtain ⟨-, h1, h2, h3, -⟩ := cut_first s s.size 0 y z (by omega) h
  exact ⟨h2, h3, h1⟩
end Go.Proofs.YthdfccdkomfikaaGreatDoor
