import Derived.Test.YtmnbakalcpanlaaGreatDoorLxs
import Derived.Lib.Strings
namespace Go.Proofs.YtmnbakalcpanlaaGreatDoor
open Go.ChangeShapes Go.WideShapes Go.ChangeAt Go.RowKit
set_option linter.unusedVariables false
set_option linter.unusedSimpArgs false

/-- the base that a letter behind a 0 tells; 0: none -/
def bsl (c : Nat) : Nat := if c = 120 ∨ c = 88 then 16 else if c = 111 ∨ c = 79 then 8 else if c = 98 ∨ c = 66 then 2 else 0
/-- the reference's way: the digits of a number of a base, from a place on -/
def nmL (r : ByteArray) (b off k : Nat) : Bool :=
  if h : k < r.size then
    (if bt r k = 95 then (if (k = off ∧ b = 10) ∨ r.size ≤ k + 1 ∨ bt r (k + 1) = 95 then false else nmL r b off (k + 1))
     else if b ≤ dgv (bt r k) then false else nmL r b off (k + 1))
  else true
termination_by r.size - k
/-- is it a number? -/
def num (r : ByteArray) : Bool :=
  if 1 < r.size ∧ bt r 0 = 48 then (if bsl (bt r 1) = 0 ∨ r.size ≤ 2 then false else nmL r (bsl (bt r 1)) 2 2)
  else if r.size = 0 then false else nmL r 10 0 0
/-- the code's way: is a digit wanted? -/
def cnL (r : ByteArray) (b k : Nat) (wt : Bool) : Bool :=
  if h : k < r.size then
    (if bt r k = 95 ∧ wt = false then cnL r b (k + 1) true
     else if b ≤ dgv (bt r k) then false else cnL r b (k + 1) false)
  else !wt
termination_by r.size - k
theorem cn_nm (r : ByteArray) (b off : Nat) (hb : b ≤ 16) (ho : b = 10 → off = 0) : ∀ n k, r.size - k ≤ n → ((¬ (k = off ∧ b = 10)) → cnL r b k false = nmL r b off k) ∧ cnL r b k true = (decide (k < r.size ∧ bt r k ≠ 95) && nmL r b off k) := by
  have d95 : dgv 95 = 99 := by decide
  intro n
  induction n with
  | zero =>
    intro k hk
    have hk' : ¬ k < r.size := by omega
    refine ⟨fun _ => ?_, ?_⟩
    · rw [cnL, nmL, dif_neg hk', dif_neg hk']; rfl
    · rw [cnL, nmL, dif_neg hk', dif_neg hk']; simp [hk']
  | succ n ih =>
    intro k hk
    by_cases hk' : k < r.size
    · obtain ⟨ih1, ih2⟩ := ih (k + 1) (by omega)
      have next : cnL r b (k + 1) false = nmL r b off (k + 1) := ih1 (fun h => by have := ho h.2; omega)
      refine ⟨fun hne => ?_, ?_⟩
      · rw [cnL, nmL, dif_pos hk', dif_pos hk']
        by_cases h95 : bt r k = 95
        · rw [if_pos ⟨h95, rfl⟩, if_pos h95, ih2]
          by_cases h1 : r.size ≤ k + 1
          · rw [if_pos (.inr (.inl h1))]; simp; omega
          · by_cases h2 : bt r (k + 1) = 95
            · rw [if_pos (.inr (.inr h2))]; simp [h2]
            · rw [if_neg (by simp only [not_or]; exact ⟨hne, h1, h2⟩)]
              have : k + 1 < r.size := by omega
              simp [h2, this]
        · rw [if_neg (fun h => h95 h.1), if_neg h95, next]
      · rw [cnL, nmL, dif_pos hk', dif_pos hk']
        by_cases h95 : bt r k = 95
        · rw [if_neg (by simp), if_pos (by rw [h95, d95]; omega)]
          simp [h95]
        · rw [if_neg (fun h => h95 h.1), if_neg h95, next]
          simp [h95, hk']
    · refine ⟨fun _ => ?_, ?_⟩
      · rw [cnL, nmL, dif_neg hk', dif_neg hk']; rfl
      · rw [cnL, nmL, dif_neg hk', dif_neg hk']; simp [hk']
/-- the place of the code's first digit -/
def cof (r : ByteArray) : Nat := if bt r 2 = 95 then 3 else 2
/-- the code's way to tell a number -/
def cnum (r : ByteArray) : Bool :=
  if 2 ≤ r.size ∧ bt r 0 = 48 ∧ bsl (bt r 1) ≠ 0 then cnL r (bsl (bt r 1)) (cof r) true
  else if bt r 0 = 48 then decide (r.size = 1) else cnL r 10 0 true
theorem bsl_le (c : Nat) : bsl c ≤ 16 ∧ bsl c ≠ 10 := by unfold bsl; repeat (first | (constructor <;> omega) | split)
theorem cnum_num (r : ByteArray) (h0 : 0 < r.size) (hd : 48 ≤ bt r 0 ∧ bt r 0 ≤ 57) : cnum r = num r := by
  unfold cnum num
  by_cases h1 : 1 < r.size ∧ bt r 0 = 48
  · rw [if_pos h1]
    by_cases hb : bsl (bt r 1) = 0
    · rw [if_neg (by simp [hb]), if_pos h1.2, if_pos (.inl hb)]
      simp; omega
    · obtain ⟨hb1, hb2⟩ := bsl_le (bt r 1)
      rw [if_pos ⟨h1.1, h1.2, hb⟩]
      by_cases hs : r.size ≤ 2
      · rw [if_pos (.inr hs)]
        have : ¬ cof r < r.size := by unfold cof; split <;> omega
        rw [cnL, dif_neg this]; rfl
      · rw [if_neg (by simp only [not_or]; exact ⟨hb, hs⟩)]
        obtain ⟨k1, k2⟩ := cn_nm r (bsl (bt r 1)) 2 hb1 (fun h => absurd h hb2) r.size 2 (by omega)
        by_cases h95 : bt r 2 = 95
        · have hc : cof r = 3 := by unfold cof; rw [if_pos h95]
          rw [hc]
          have := k1 (fun h => hb2 h.2)
          have e : cnL r (bsl (bt r 1)) 2 false = cnL r (bsl (bt r 1)) 3 true := by rw [cnL, dif_pos (by omega), if_pos ⟨h95, rfl⟩]
          rw [← this, e]
        · have hc : cof r = 2 := by unfold cof; rw [if_neg h95]
          rw [hc, k2]
          have : 2 < r.size := by omega
          simp [h95, this]
  · have hA : ¬ (2 ≤ r.size ∧ bt r 0 = 48 ∧ bsl (bt r 1) ≠ 0) := fun h => h1 ⟨by omega, h.2.1⟩
    have hZ : ¬ r.size = 0 := by omega
    rw [if_neg h1, if_neg hA, if_neg hZ]
    have hd2 : bt r 0 ≠ 95 := by omega
    obtain ⟨k1, k2⟩ := cn_nm r 10 0 (by omega) (fun _ => rfl) r.size 0 (by omega)
    by_cases h48 : bt r 0 = 48
    · have hs : r.size = 1 := by
        by_cases h : 1 < r.size
        · exact absurd ⟨h, h48⟩ h1
        · omega
      have e1 : nmL r 10 0 1 = true := by rw [nmL, dif_neg (by omega)]
      rw [if_pos h48, nmL, dif_pos h0, if_neg hd2, if_neg (by rw [h48]; decide), e1]
      simp [hs]
    · rw [if_neg h48, k2]
      simp [hd2, h0]
end Go.Proofs.YtmnbakalcpanlaaGreatDoor

namespace Go.Proofs.YtmnbakalcpanlaaGreatDoor
open Go.ChangeShapes Go.WideShapes Go.ChangeAt Go.RowKit
set_option linter.unusedVariables false
set_option linter.unusedSimpArgs false

/-- the items up to the closing quote: its place, how many there are, the first bad byte -/
def quo (s : ByteArray) (q k c : Nat) (bad : Option Nat) : Option (Nat × Nat × Option Nat) :=
  if h : k < s.size ∧ bt s k ≠ 10 then
    (if bt s k = q then some (k, c, bad) else
     match itm s k q with
     | none => none
     | some it => if hn : 0 < it.n then quo s q (k + it.n) (c + 1) (if it.b = true ∧ bad = none then some k else bad) else none)
  else none
termination_by s.size - k
/-- a piece: its kind and its end, or a fault: why, and where -/
inductive Pce where
  | ok (k t : Nat)
  | no (y p : Nat)
def quP (s : ByteArray) (p : Nat) : Pce :=
  if bt s p = 96 then (if fnd s 96 (p + 1) < s.size then .ok 5 (fnd s 96 (p + 1) + 1) else .no 22 p) else
  match quo s (bt s p) (p + 1) 0 none with
  | none => .no 22 p
  | some (t, c, bad) => if bt s p = 39 ∧ c ≠ 1 then .no 22 p else
    match bad with
    | some z => .no 20 z
    | none => .ok (if bt s p = 39 then 4 else 5) (t + 1)
def wds : List (List UInt8) := [[98, 114, 101, 97, 107], [99, 97, 115, 101], [99, 104, 97, 110], [99, 111, 110, 115, 116], [99, 111, 110, 116, 105, 110, 117, 101], [100, 101, 102, 97, 117, 108, 116], [100, 101, 102, 101, 114], [101, 108, 115, 101], [102, 97, 108, 108, 116, 104, 114, 111, 117, 103, 104], [102, 111, 114], [102, 117, 110, 99], [103, 111], [103, 111, 116, 111], [105, 102], [105, 109, 112, 111, 114, 116], [105, 110, 116, 101, 114, 102, 97, 99, 101], [109, 97, 112], [112, 97, 99, 107, 97, 103, 101], [114, 97, 110, 103, 101], [114, 101, 116, 117, 114, 110], [115, 101, 108, 101, 99, 116], [115, 116, 114, 117, 99, 116], [115, 119, 105, 116, 99, 104], [116, 121, 112, 101], [118, 97, 114]]
def mks : List (List UInt8) := [[43], [45], [42], [47], [37], [38], [124], [94], [60, 60], [62, 62], [38, 94], [43, 61], [45, 61], [42, 61], [47, 61], [37, 61], [38, 61], [124, 61], [94, 61], [60, 60, 61], [62, 62, 61], [38, 94, 61], [38, 38], [124, 124], [60, 45], [43, 43], [45, 45], [61, 61], [60], [62], [61], [33], [126], [33, 61], [60, 61], [62, 61], [58, 61], [46, 46, 46], [40], [41], [91], [93], [123], [125], [44], [46], [59], [58]]
def kwd (t : List UInt8) : Nat := match wds.idxOf? t with | some i => 7 + i | none => 2
def nmP (s : ByteArray) (p : Nat) : Pce := if 200 < rnE s p - p then .no 24 p else .ok (kwd (s.extract p (rnE s p)).data.toList) (rnE s p)
def ruP (s : ByteArray) (p : Nat) : Pce := if num (s.extract p (rnE s p)) then .ok 3 (rnE s p) else .no 21 p
/-- does the text go on so at a place? -/
def bgn (s : ByteArray) (p : Nat) (m : List UInt8) : Bool := decide (p + m.length ≤ s.size) && (s.extract p (p + m.length)).data.toList == m
/-- the longest of the marks that fit: its kind and its end -/
def mkF (s : ByteArray) (p : Nat) : List (List UInt8) → Nat → Nat × Nat → Nat × Nat
  | [], _, b => b
  | m :: r, i, b => mkF s p r (i + 1) (if bgn s p m = true ∧ b.2 < p + m.length then (32 + i, p + m.length) else b)
def mkP (s : ByteArray) (p : Nat) : Pce := if (mkF s p mks 0 (0, p)).2 = p then .no 20 p else .ok (mkF s p mks 0 (0, p)).1 (mkF s p mks 0 (0, p)).2
/-- what begins at a place -/
def pce (s : ByteArray) (p : Nat) : Pce :=
  if blk (bt s p) then .ok 0 (blE s p) else
  if bt s p = 47 ∧ bt s (p + 1) = 47 then .ok 1 (fnd s 10 p) else
  if bt s p = 47 ∧ bt s (p + 1) = 42 then (match fn2 s 42 47 (p + 2) with | some k => .ok 1 (k + 2) | none => .no 23 p) else
  if isL (rn s p) then nmP s p else
  if 48 ≤ bt s p ∧ bt s p ≤ 57 then ruP s p else
  if bt s p = 39 ∨ bt s p = 34 ∨ bt s p = 96 then quP s p else mkP s p
end Go.Proofs.YtmnbakalcpanlaaGreatDoor

namespace Go.Proofs.YtmnbakalcpanlaaGreatDoor
open Go.ChangeShapes Go.WideShapes Go.ChangeAt Go.RowKit Go.Maps Go.WideMaps
set_option linter.unusedVariables false
set_option linter.unusedSimpArgs false

theorem infoU8R : (Tryz.prog.info? 5).map (fun i => (i.zero, i.size, i.bytes)) = some (some (.int .u8 0), 1, 1) := by kernel_rfl
set_option maxRecDepth 1000000 in
set_option maxHeartbeats 8000000 in
theorem edited_raw (s n : ByteArray) (f t : Nat) (hs : s.size ≤ 4294967280) (hn : n.size ≤ 4294967280) (hft : f ≤ t) (ht : t ≤ s.size) (w : World) :
    Calls Tryz.prog 23 #[.string s, .agg #[.int .i64 (f : Int), .int .i64 (t : Int), .string n]] w fun e w' => e = .returned (.string ⟨((s.extract 0 f).data.toList ++ n.data.toList ++ (s.extract t s.size).data.toList).toArray⟩) ∧ Below w.heap.size w w' := by
  obtain ⟨i0, hi, hz0, hz1, hz2⟩ := info_parts infoU8R
  obtain ⟨w2, e2, hb2, hs2, B2⟩ := bx1 w #[.int .i64 (f : Int), .int .i64 (t : Int), .string n] 38
  have HB2 : Hid (Below w.heap.size w w2) := hb2
  have HX2 : Hid (Bx w2 w.heap.size #[.int .i64 (f : Int), .int .i64 (t : Int), .string n] 38) := B2
  have k0 := B2.cell 0
  have kz := B2.lt
  simp at k0
  have z1 : (s.extract 0 f).size = f := by rw [ByteArray.size_extract]; omega
  have z2 : (s.extract t s.size).size = s.size - t := by rw [ByteArray.size_extract]; omega
  have hf' : (f : Int) ≤ (s.size : Int) := by omega
  have ht' : (t : Int) ≤ (s.size : Int) := by omega
  obtain ⟨L, hL⟩ : ∃ L : ByteArray, ⟨((s.extract 0 f).data.toList ++ n.data.toList ++ (s.extract t s.size).data.toList).toArray⟩ = L := ⟨_, rfl⟩
  have HLE : Hid (⟨((s.extract 0 f).data.toList ++ n.data.toList ++ (s.extract t s.size).data.toList).toArray⟩ = L) := hL
  rw [hL]
  clear hb2 B2 hL
  go_enter Tryz.func23, Tryz.ntmps23
  go_wp2_with (first
    | (at_builtin; (refine Lib.wpList_append_own_string _ rfl (.tmp 6) (.tmp 10) 51 9 rfl w2.heap.size 5 i0 Tryz.underlying51 Tryz.underlying9 hi hz0 hz1 hz2 _ _ _ rfl (World.ownsRow_nil _ _ _ _) (s.extract 0 f) rfl (by simp only [z1]; unfold maxLen; omega) (by simp only [z1]; omega) (by simp) ?_); intro v4 w4 ho4 hg4 _; rw [bc_str] at ho4; have HB4 : Hid (Below w2.heap.size w2 w4) := (Below.refl _ w2).grown hg4 (Nat.le_refl _) (fun j hj => by cases hj); have HO4 : Hid (w4.ownsRow w2.heap.size 5 1 v4 f (bc (s.extract 0 f).data.toList)) := (by unfold Hid; simp only [Nat.zero_add, List.nil_append, z1] at ho4; exact ho4); have X4 : Bx w4 w.heap.size #[.int .i64 (f : Int), .int .i64 (t : Int), .string n] 38 := HX2.out.below HB4.out HX2.out.lt; have k4 : w4.cell? ⟨w.heap.size, 2, none⟩ = some (.string n) := X4.cell 2; have m4 := X4.lt; have s4 : w2.heap.size ≤ w4.heap.size := HB4.out.size; clear ho4 hg4 X4)
    | (at_builtin; (refine Lib.wpList_append_own_string _ rfl (.tmp 12) (.tmp 14) 51 9 rfl w2.heap.size 5 i0 Tryz.underlying51 Tryz.underlying9 hi hz0 hz1 hz2 _ _ _ rfl (HO4.out) (n) rfl (by  unfold maxLen; omega) (by  omega) (by omega) ?_); intro v5 w5 ho5 hg5 _; rw [bc_str, ← bc_append] at ho5; have HB5 : Hid (Below w2.heap.size w2 w5) := HB4.out.grown hg5 HB4.out.size (fun j hj => (HO4.out.lt j hj).1); have HO5 : Hid (w5.ownsRow w2.heap.size 5 1 v5 (f + n.size) (bc ((s.extract 0 f).data.toList ++ n.data.toList))) := ho5; have X5 : Bx w5 w.heap.size #[.int .i64 (f : Int), .int .i64 (t : Int), .string n] 38 := HX2.out.below HB5.out HX2.out.lt; have k5 : w5.cell? ⟨w.heap.size, 1, none⟩ = some (.int .i64 (t : Int)) := X5.cell 1; have m5 := X5.lt; have s5 : w2.heap.size ≤ w5.heap.size := HB5.out.size; clear ho5 hg5 X5)
    | (at_builtin; (refine Lib.wpList_append_own_string _ rfl (.tmp 16) (.tmp 20) 51 9 rfl w2.heap.size 5 i0 Tryz.underlying51 Tryz.underlying9 hi hz0 hz1 hz2 _ _ _ rfl (HO5.out) (s.extract t s.size) rfl (by simp only [z2]; unfold maxLen; omega) (by simp only [z2]; omega) (by omega) ?_); intro v6 w6 ho6 hg6 _; rw [bc_str, ← bc_append] at ho6; have HB6 : Hid (Below w2.heap.size w2 w6) := HB5.out.grown hg6 HB5.out.size (fun j hj => (HO5.out.lt j hj).1); have hconv : (convert 51 9 v6).run Tryz.prog w6 = .ok (.string L) w6 := (by rw [← HLE.out]; exact own_string_any ho6); clear ho6 hg6))
  go_ret
  exact ⟨rfl, HB2.out.trans (HB6.out.mono HB2.out.size)⟩
end Go.Proofs.YtmnbakalcpanlaaGreatDoor
