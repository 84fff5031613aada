import Derived.Test.YtmnbakalcpanlaaGreatDoorRs2
import Derived.Test.YtmnbakalcpanlaaGreatDoorLmv
import Derived.Test.YtmnbakalcpanlaaGreatDoorLc2
import Derived.Test.YtmnbakalcpanlaaGreatDoorRs6
namespace Go.Proofs.YtmnbakalcpanlaaGreatDoor
open Go.ChangeShapes Go.WideShapes Go.ChangeAt Go.RowKit Go.Maps Go.WideMaps
set_option linter.unusedVariables false
set_option linter.unusedSimpArgs false

/-- the kind of a text that is one token -/
def kOf (s : ByteArray) : Option Nat := if s.size = 0 then none else match pce s 0 with
  | .ok k t => if 2 ≤ k ∧ t = s.size then some k else none
  | .no _ _ => none
def kV : Option Nat → Value
  | some k => .tuple #[.int .u8 (k : Int), .bool true]
  | none => .tuple #[.int .u8 0, .bool false]
theorem kOf_some {s : ByteArray} {k : Nat} (h : kOf s = some k) : 0 < s.size ∧ pce s 0 = .ok k s.size ∧ 2 ≤ k ∧ k < 80 ∧ k ≠ 6 ∧ cut s 0 = ([(⟨k, 0, s.size⟩ : Tk)], none) := by
  unfold kOf at h
  split at h
  · cases h
  · rename_i h0
    have hp : 0 < s.size := by omega
    cases hc : pce s 0 with
    | no y z => rw [hc] at h; cases h
    | ok k' t =>
      rw [hc] at h
      simp only at h
      split at h
      · rename_i h2
        cases h
        obtain ⟨h3, rfl⟩ := h2
        have h6 : k ≠ 6 := by rcases pce_shape hp hc with e | e | e | e | e | e <;> omega
        refine ⟨hp, rfl, h3, (pce_ok hp hc).2.2, h6, ?_⟩
        rw [cut_ok hp hc, cut_end (by omega)]
        rfl
      · cases h
/-- a text that is no token has another list -/
theorem kOf_none {s : ByteArray} (h : kOf s = none) (hn : (cut s 0).2 = none) : wau s (cut s 0).1 = [] ∨ (∃ k f t : Nat, wau s (cut s 0).1 = [(⟨k, f, t⟩ : Tk)] ∧ (k = 0 ∨ k = 1)) ∨ (∃ (q : Tk) (k f t : Nat), wau s (cut s 0).1 = [q, ⟨k, f, t⟩] ∧ k ≠ 6) ∨ 3 ≤ (wau s (cut s 0).1).length := by
  by_cases hp : 0 < s.size
  · cases hc : pce s 0 with
    | no y z => rw [cut_no hp hc] at hn; cases hn
    | ok k t =>
      obtain ⟨t1, t2, t3⟩ := pce_ok hp hc
      rw [cut_ok hp hc] at hn ⊢
      simp only at hn ⊢
      by_cases ht : t = s.size
      · have hk : ¬ 2 ≤ k := by
          intro h2
          unfold kOf at h
          rw [if_neg (by omega), hc] at h
          simp only at h
          rw [if_pos ⟨h2, ht⟩] at h
          cases h
        have ha : ask k = false := by
          have : ∀ k, k < 2 → ask k = false := by decide
          exact this k (by omega)
        right; left
        refine ⟨k, 0, t, ?_, by omega⟩
        rw [cut_end (by omega)]
        simp [wau, ha]
      · have htl : t < s.size := by omega
        cases hc2 : pce s t with
        | no y z => rw [cut_no htl hc2] at hn; cases hn
        | ok k2 tt =>
          have h6 : k2 ≠ 6 := by rcases pce_shape htl hc2 with e | e | e | e | e | e <;> omega
          right; right
          rw [cut_ok htl hc2]
          simp only [wau, Int.toNat_natCast]
          split
          · right; simp
          · split
            · right; simp
            · cases hr : wau s (cut s tt).1 with
              | nil => left; exact ⟨⟨k, 0, t⟩, k2, t, tt, by simp [hr], h6⟩
              | cons x r => right; simp [hr]
  · left; rw [cut_end hp]; rfl

set_option maxRecDepth 1000000 in
set_option maxHeartbeats 8000000 in
theorem Kind_any (s : ByteArray) (hs : s.size ≤ 4294967280) (w : World) (hS : Spl w) (hT : Lt w) (hM : MaxL w) :
    Calls Tryz.prog 61 #[.string s] w fun e w' => e = .returned (kV (kOf s)) ∧ Below w.heap.size w w' := by
  cases hk : kOf s with
  | some k =>
    obtain ⟨h1, h2, h3, h4, h5, h6⟩ := kOf_some hk
    exact Kind_one k h3 h4 s hs h6 w hS hT hM
  | none =>
    cases hC : (cut s 0).2 with
    | some x =>
      obtain ⟨y, z⟩ := x
      have HS1 : Hid (Calls Tryz.prog 4 #[.string s] w fun e w' => e = .returned (.tuple #[.slice none 0 0, .agg #[.int .i64 (y : Int), .int .i64 0, .int .i64 (z : Int)]]) ∧ Below w.heap.size w w') := scan_no hs hC w hS hT hM
      clear hk hC hS hT hM
      go_enter Tryz.func61, Tryz.ntmps61
      go_wp2_with (go_at_call 4; (with_reducible refine HS1.out.mono ?_); rintro e w3 ⟨rfl, hb3⟩; have HB3 : Hid (Below w.heap.size w w3) := hb3; clear hb3)
      go_ret2
      exact ⟨rfl, HB3.out.alloc HB3.out.size _⟩
    | none =>
      have hcs := kOf_none hk hC
      obtain ⟨L, hL⟩ : ∃ L, wau s (cut s 0).1 = L := ⟨_, rfl⟩
      have HS1 : Hid (Calls Tryz.prog 4 #[.string s] w fun e w' => ∃ a c, e = .returned (.tuple #[.slice a L.length c, .agg #[.int .i64 0, .int .i64 0, .int .i64 0]]) ∧ LiesA w' a L ∧ L.length ≤ c ∧ (a = none → c = 0) ∧ Below w.heap.size w w') := by rw [← hL]; exact scan_ok hs hC w hS hT hM
      rw [hL] at hcs
      clear hk hC hS hT hM hL
      rcases hcs with rfl | ⟨k, f, t, rfl, hk⟩ | ⟨q, k, f, t, rfl, hk⟩ | hl
      · go_enter Tryz.func61, Tryz.ntmps61
        go_wp2_with (go_at_call 4; (with_reducible refine HS1.out.mono ?_); rintro e w3 ⟨a3, c3, rfl, hl3, hc3, hn3, hb3⟩; have HB3 : Hid (Below w.heap.size w w3) := hb3; clear hb3 hl3 hn3)
        go_ret2
        exact ⟨rfl, HB3.out.alloc HB3.out.size _⟩
      · have HIT : Hid (∀ v, Calls Tryz.prog 41 #[.int .u8 (k : Int)] v fun e w' => e = .returned (.bool false) ∧ w' = v) := fun v => isTok_no k hk v
        go_enter Tryz.func61, Tryz.ntmps61
        go_wp2_with (first
          | (go_at_call 4; (with_reducible refine HS1.out.mono ?_); rintro e w3 ⟨a3, c3, rfl, hl3, hc3, hn3, hb3⟩; have HB3 : Hid (Below w.heap.size w w3) := hb3; obtain ⟨g, o, rfl, hlg⟩ : ∃ g o, a3 = some ⟨g, o, none⟩ ∧ Lies w3 g o [(⟨k, f, t⟩ : Tk)] := (by rcases hl3 with h | h; (· cases h); exact h); have d0 : w3.cell? ⟨g, o, none⟩ = some (.int .u8 (k : Int)) := (hlg.tk (Below.refl _ _) (i := 0) rfl).1; have dz := hlg.1; clear hb3 hl3 hn3 hlg)
          | (go_at_call 41; (with_reducible refine (HIT.out _).mono ?_); rintro e w5 ⟨rfl, hw5⟩; subst hw5))
        go_ret2
        exact ⟨rfl, HB3.out.alloc HB3.out.size _⟩
      · have hk6 : ((k : Int) == 6) = false := by rw [beq_eq_false_iff_ne]; omega
        go_enter Tryz.func61, Tryz.ntmps61
        go_wp2_with (go_at_call 4; (with_reducible refine HS1.out.mono ?_); rintro e w3 ⟨a3, c3, rfl, hl3, hc3, hn3, hb3⟩; have HB3 : Hid (Below w.heap.size w w3) := hb3; obtain ⟨g, o, rfl, hlg⟩ : ∃ g o, a3 = some ⟨g, o, none⟩ ∧ Lies w3 g o [q, (⟨k, f, t⟩ : Tk)] := (by rcases hl3 with h | h; (· cases h); exact h); have d0 : w3.cell? ⟨g, o + 3, none⟩ = some (.int .u8 (k : Int)) := (hlg.tk (Below.refl _ _) (i := 1) rfl).1; have dz := hlg.1; clear hb3 hl3 hn3 hlg)
        go_ret2
        exact ⟨rfl, HB3.out.alloc HB3.out.size _⟩
      · have h1 : ((L.length : Int) == 1) = false := by rw [beq_eq_false_iff_ne]; omega
        have h2 : ((L.length : Int) == 2) = false := by rw [beq_eq_false_iff_ne]; omega
        go_enter Tryz.func61, Tryz.ntmps61
        go_wp2_with (go_at_call 4; (with_reducible refine HS1.out.mono ?_); rintro e w3 ⟨a3, c3, rfl, hl3, hc3, hn3, hb3⟩; have HB3 : Hid (Below w.heap.size w w3) := hb3; clear hb3 hl3 hn3)
        go_ret2
        exact ⟨rfl, HB3.out.alloc HB3.out.size _⟩
def kIs (s : ByteArray) (n : Nat) : Bool := decide (kOf s = some n)
set_option maxRecDepth 1000000 in
set_option maxHeartbeats 8000000 in
theorem isOf_any (s : ByteArray) (n : Nat) (hn : n < 80) (hs : s.size ≤ 4294967280) (w : World) (hS : Spl w) (hT : Lt w) (hM : MaxL w) :
    Calls Tryz.prog 47 #[.string s, .int .u8 (n : Int)] w fun e w' => e = .returned (.bool (kIs s n)) ∧ Below w.heap.size w w' := by
  have HK0 := Kind_any s hs w hS hT hM
  unfold kIs
  cases hk : kOf s with
  | none =>
    rw [hk] at HK0
    have HK : Hid (Calls Tryz.prog 61 #[.string s] w fun e w' => e = .returned (.tuple #[.int .u8 0, .bool false]) ∧ Below w.heap.size w w') := HK0
    clear HK0 hk hS hT hM
    go_enter Tryz.func47, Tryz.ntmps47
    go_wp2_with (go_at_call 61; (with_reducible refine HK.out.mono ?_); rintro e w3 ⟨rfl, hb3⟩; have HB3 : Hid (Below w.heap.size w w3) := hb3; clear hb3)
    go_ret
    exact ⟨rfl, HB3.out⟩
  | some k =>
    rw [hk] at HK0
    have HK : Hid (Calls Tryz.prog 61 #[.string s] w fun e w' => e = .returned (.tuple #[.int .u8 (k : Int), .bool true]) ∧ Below w.heap.size w w') := HK0
    obtain ⟨z, hz⟩ : ∃ z, decide (some k = some n) = z := ⟨_, rfl⟩
    rw [hz]
    have hq : ((k : Int) == (n : Int)) = z := by
      rw [← hz]
      by_cases h : k = n
      · subst h; simp
      · rw [beq_eq_false_iff_ne.2 (by omega), decide_eq_false (by simpa using h)]
    clear HK0 hk hS hT hM hz
    cases z
    all_goals
      go_enter Tryz.func47, Tryz.ntmps47
      go_wp2_with (go_at_call 61; (with_reducible refine HK.out.mono ?_); rintro e w3 ⟨rfl, hb3⟩; have HB3 : Hid (Below w.heap.size w w3) := hb3; clear hb3)
      go_ret
      exact ⟨rfl, HB3.out⟩
end Go.Proofs.YtmnbakalcpanlaaGreatDoor

namespace Go.Proofs.YtmnbakalcpanlaaGreatDoor
open Go.ChangeShapes Go.WideShapes Go.ChangeAt Go.RowKit Go.Maps Go.WideMaps
set_option linter.unusedVariables false
set_option linter.unusedSimpArgs false

/-- what Rescan answers: the text, the list, the fault and its place -/
structure Rsc where
  tx : ByteArray
  ls : List Tk
  y : Nat
  z : Nat
def rcut (s : ByteArray) : Rsc := match (cut s 0).2 with
  | none => ⟨s, wau s (cut s 0).1, 0, 0⟩
  | some (y, z) => ⟨s, [], y, z⟩
def rsc (s : ByteArray) (xs : List Tk) (ef et : Int) (n : ByteArray) : Rsc :=
  if sdB s xs = false then ⟨.empty, [], 1, 0⟩
  else if ef < 0 ∨ et < ef ∨ (s.size : Int) < et then ⟨.empty, [], 10, 0⟩
  else rcut (edE s n ef.toNat et.toNat)
theorem rescan_all (s : ByteArray) (a : Option Addr) (c : Nat) (xs : List Tk) (ef et : Int) (n : ByteArray) (hs : s.size ≤ 2147483640) (hn : n.size ≤ 2147483640) (hx : xs.length ≤ 281474976710656) (w : World) (hl : LiesA w a xs) (hS : Spl w) (hT : Lt w) (hM : MaxL w) :
    Calls Tryz.prog 9 #[.string s, .slice a xs.length c, .agg #[.int .i64 ef, .int .i64 et, .string n]] w fun e w' => ∃ a' c', e = .returned (.tuple #[.string (rsc s xs ef et n).tx, .slice a' (rsc s xs ef et n).ls.length c', .agg #[.int .i64 ((rsc s xs ef et n).y : Int), .int .i64 0, .int .i64 ((rsc s xs ef et n).z : Int)]]) ∧ w'.ownsRow w.heap.size 50 3 (.slice a' (rsc s xs ef et n).ls.length c') (rsc s xs ef et n).ls.length (flat (rsc s xs ef et n).ls) ∧ Below w.heap.size w w' := by
  unfold rsc
  cases hb : sdB s xs with
  | false =>
    rw [if_pos rfl]
    refine (rescan_arg s a c xs ef et n (by omega) hx hb w hl hS hT hM).mono ?_
    rintro e w' ⟨rfl, hb⟩
    exact ⟨none, 0, rfl, World.ownsRow_nil _ _ _ _, hb⟩
  | true =>
    rw [if_neg (by simp)]
    by_cases hE : ef < 0 ∨ et < ef ∨ (s.size : Int) < et
    · rw [if_pos hE]
      refine (rescan_span s a c xs ef et n (by omega) hx hb hE w hl hS hT hM).mono ?_
      rintro e w' ⟨rfl, hb⟩
      exact ⟨none, 0, rfl, World.ownsRow_nil _ _ _ _, hb⟩
    · rw [if_neg hE]
      obtain ⟨f, hf⟩ : ∃ f : Nat, ef = f := ⟨ef.toNat, by omega⟩
      obtain ⟨t, ht⟩ : ∃ t : Nat, et = t := ⟨et.toNat, by omega⟩
      subst hf
      subst ht
      rw [Int.toNat_natCast, Int.toNat_natCast]
      refine (rescan_in s a c xs f t n hs hn hb (by omega) (by omega) w hl hS hT hM).mono ?_
      intro e w' h
      unfold RcE at h
      unfold rcut
      obtain ⟨h1, h2⟩ := h
      cases hN : (cut (edE s n f t) 0).2 with
      | none =>
        rw [hN] at h2
        obtain ⟨v, rfl, ho⟩ := h2
        obtain ⟨a', c', rfl, -, -⟩ := own_form' ho
        exact ⟨a', c', rfl, ho, h1⟩
      | some yz =>
        obtain ⟨y, z⟩ := yz
        rw [hN] at h2
        exact ⟨none, 0, h2, World.ownsRow_nil _ _ _ _, h1⟩
end Go.Proofs.YtmnbakalcpanlaaGreatDoor
