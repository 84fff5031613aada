import Derived.Test.YtmnbakalcpanlaaGreatDoorLy6
import Derived.Maps.Own
import Derived.Maps.OwnSet
import Derived.Lib.Index
namespace Go.Proofs.YtmnbakalcpanlaaGreatDoor
open Go.ChangeShapes Go.WideShapes Go.ChangeAt Go.RowKit Go.Maps Go.WideMaps
set_option linter.unusedVariables false
set_option linter.unusedSimpArgs false

/-- the spellings by kind -/
def spl : List (List UInt8) := [[], [], [], [], [], [], []] ++ wds ++ mks
theorem spl_len : spl.length = 80 := by decide
/-- the table of the spellings stands -/
def Spl (w : World) : Prop := 0 < w.heap.size ∧ ∀ i, i < 80 → w.cell? ⟨0, i, none⟩ = some (.string ⟨(spl.getD i []).toArray⟩)
theorem Spl.below {w w' : World} (h : Spl w) (hb : Below w.heap.size w w') : Spl w' := ⟨Nat.lt_of_lt_of_le h.1 hb.size, fun i hi => (hb.cell (p := ⟨0, i, none⟩) h.1).trans (h.2 i hi)⟩
theorem spl_wd (k : Nat) (h : k < 25) : spl.getD (7 + k) [] = wds.getD k [] := by
  have : ∀ k, k < 25 → spl.getD (7 + k) [] = wds.getD k [] := by decide
  exact this k h
/-- the keywords, as a map reads -/
def KW : Nat → DataW Unit
  | 0 => .map []
  | k + 1 => (KW k).put (.string (wds.getD k [])) (.lit (.int .u8 ((7 + k : Nat) : Int)))
theorem lawS : Keyed Tryz.prog 9 := string_keyed Tryz.underlying9
theorem wd_short (k : Nat) : (wds.getD k []).length ≤ 11 := by
  by_cases h : k < 25
  · have : ∀ k, k < 25 → (wds.getD k []).length ≤ 11 := by decide
    exact this k h
  · have h25 : wds.length = 25 := by decide
    rw [List.getD_eq_getElem?_getD, List.getElem?_eq_none (by omega)]; simp

set_option maxRecDepth 100000 in
set_option maxHeartbeats 2000000 in
theorem keywords_any (w : World) (hS : Spl w) :
    Calls Tryz.prog 27 #[] w fun e w' => e = .returned (.map (some w.heap.size)) ∧ w'.ownsMap Tryz.prog 9 (plainElem (H := Unit) Tryz.prog 48) w.heap.size 25 (KW 25) ∧ Below w.heap.size w w' := by
  have hmm := @run_makeMap Tryz.prog
  have HS : Hid (∀ v, Below w.heap.size w v → Spl v) := fun v hv => hS.below hv
  have hg0 := hS.1
  clear hS
  go_enter Tryz.func27, Tryz.ntmps27
  go_wp2
  go_loopw [2] (fun i wr => ∃ k : Nat, k ≤ 25 ∧ i = .int .u8 ((7 + k : Nat) : Int) ∧ wr.ownsMap Tryz.prog 9 (plainElem (H := Unit) Tryz.prog 48) w.heap.size k (KW k) ∧ Below w.heap.size w wr) (fun i _ => 32 - (intOf i).toNat)
  case atStart => exact ⟨0, Nat.zero_le _, rfl, World.ownsMap_made _ _ _ _, (Below.refl _ _).alloc (Nat.le_refl _) _⟩
  case round =>
    obtain ⟨k, hk, rfl, hown, hnx⟩ := hrel
    have HO : Hid (wr.ownsMap Tryz.prog 9 (plainElem (H := Unit) Tryz.prog 48) w.heap.size k (KW k)) := hown
    have HB : Hid (Below w.heap.size w wr) := hnx
    clear hown
    by_cases hlt : k < 25
    · have hle : (7 : Int) + (k : Int) ≤ 31 := by omega
      have hle2 : (((7 + k : Nat) : Int)) ≤ 31 := by omega
      have hc0 := (HS.out wr HB.out).2 (7 + k) (by omega)
      rw [spl_wd k hlt] at hc0
      obtain ⟨T, hT⟩ : ∃ T : ByteArray, ⟨(wds.getD k []).toArray⟩ = T := ⟨_, rfl⟩
      rw [hT] at hc0
      have HKEY : Hid (keyOf Tryz.prog 9 (.string T) = some (.string (wds.getD k []))) := by
        unfold Hid
        rw [← hT, keyOf_string_mk Tryz.underlying9 (by have := wd_short k; show (wds.getD k []).toArray.size ≤ maxLen; unfold maxLen; rw [List.size_toArray]; omega)]
      have hgr : 0 < wr.heap.size := by have := HB.out.size; omega
      have HST : Hid ((KW k).put (.string (wds.getD k [])) (.lit (.int .u8 ((7 + k : Nat) : Int))) = KW (k + 1)) := rfl
      clear hT hnx
      go_wp2_with (at_mapUpdate; refine wpList_mapUpdate_own _ rfl _ _ _ 60 rfl 9 48 lawS Tryz.underlying60 _ w.heap.size k _ rfl HO.out (by unfold maxLen; omega) _ _ _ rfl rfl HKEY.out _ [] (plainElem_int Tryz.underlying48 (WalkArith.wf_u8 ⟨by omega, by omega⟩)) ?_; intro w1 hown1 hgrow1)
      have R1 : Hid (w1.ownsMap Tryz.prog 9 (plainElem (H := Unit) Tryz.prog 48) w.heap.size (k + 1) (KW (k + 1))) := hown1
      have R2 : Hid (Below w.heap.size w w1) := HB.out.grown hgrow1 HB.out.size (fun j hj => by cases hj; exact Nat.le_refl _)
      clear hown1 hgrow1
      go_wp2
      go_roundw
      case rel => exact ⟨k + 1, by omega, by go_num, R1.out, R2.out⟩
      case measure => simp [intOf]; omega
    · have hk25 : k = 25 := by omega
      subst hk25
      go_wp2
      go_ret
      exact ⟨rfl, HO.out, HB.out⟩
end Go.Proofs.YtmnbakalcpanlaaGreatDoor

namespace Go.Proofs.YtmnbakalcpanlaaGreatDoor
open Go.ChangeShapes Go.WideShapes Go.ChangeAt Go.RowKit Go.Maps Go.WideMaps
set_option linter.unusedVariables false
set_option linter.unusedSimpArgs false

/-- a method as a value -/
def mv (f b : Nat) : Value := .func (Fn.func f) #[.pointer (some ⟨b, 0, none⟩)] #[]
/-- the table of what may begin at a byte -/
def sts (b : Nat) : Array Value := #[mv 28 b, mv 29 b, mv 30 b, mv 31 b, mv 32 b, mv 33 b, mv 34 b, mv 35 b, mv 36 b, mv 37 b, mv 38 b, mv 39 b]

theorem ownsMap_below {P : Program} {k : TypeId} {R : Value → Option (DataW Unit × List MemPlace)} {b n B : Nat} {D : DataW Unit} {w w' : World} (h : w.ownsMap P k R b n D) (hb : Below B w w') (hB : b < B) : w'.ownsMap P k R b n D := by
  obtain ⟨es, clock, h1, h2, h3, h4⟩ := h
  exact ⟨es, clock, (hb.block b hB).trans h1, h2, h3, h4⟩
theorem ownsMap_lt {P : Program} {k : TypeId} {R : Value → Option (DataW Unit × List MemPlace)} {b n : Nat} {D : DataW Unit} {w : World} (h : w.ownsMap P k R b n D) : b < w.heap.size := by
  obtain ⟨es, clock, h1, _⟩ := h
  exact lt_of_block h1

set_option maxRecDepth 1000000 in
set_option maxHeartbeats 4000000 in
theorem newScanner_any (s : ByteArray) (w : World) (hS : Spl w) :
    Calls Tryz.prog 12 #[.string s] w fun e w' => ∃ b, w.heap.size < b ∧ e = .returned (.pointer (some ⟨b, 0, none⟩)) ∧ Bx w' b #[.string s, .slice (some ⟨b + 1, 0, none⟩) 6 6, .map (some w.heap.size), .int .u32 0, .int .i32 0, .int .u32 0, .pointer none] 77 ∧ Bx w' (b + 1) (sts b) 80 ∧ w'.ownsMap Tryz.prog 9 (plainElem (H := Unit) Tryz.prog 48) w.heap.size 25 (KW 25) ∧ Below w.heap.size w w' := by
  have hmf : ∀ (fn : Fn) (first cap : Array Value) (w : World), (Instr.makeFunc fn first cap).run Tryz.prog w = .ok (.func fn first cap) w := fun _ _ _ _ => rfl
  have HK : Hid (Calls Tryz.prog 27 #[] w fun e w' => e = .returned (.map (some w.heap.size)) ∧ w'.ownsMap Tryz.prog 9 (plainElem (H := Unit) Tryz.prog 48) w.heap.size 25 (KW 25) ∧ Below w.heap.size w w') := keywords_any w hS
  clear hS
  go_enter Tryz.func12, Tryz.ntmps12
  go_wp2_with (go_at_call 27; (with_reducible refine HK.out.mono ?_); rintro e w1 ⟨rfl, ho1, hb1⟩; have HO1 : Hid (w1.ownsMap Tryz.prog 9 (plainElem (H := Unit) Tryz.prog 48) w.heap.size 25 (KW 25)) := ho1; have HB1 : Hid (Below w.heap.size w w1) := hb1; clear ho1 hb1)
  have hlt := ownsMap_lt HO1.out
  obtain ⟨w2, e2, hw, hs2, B0, B1⟩ := bx2 w1 #[.string s, .slice (some ⟨w1.heap.size + 1, 0, none⟩) 6 6, .map (some w.heap.size), .int .u32 0, .int .i32 0, .int .u32 0, .pointer none] (sts w1.heap.size) 77 80
  go_ret
  refine ⟨w1.heap.size, hlt, rfl, ?_⟩
  show _ ∧ _ ∧ _ ∧ _
  rw [← show _ = w2 from e2] at hw B0 B1
  exact ⟨B0, B1, ownsMap_below HO1.out hw hlt, HB1.out.trans (hw.mono HB1.out.size)⟩
end Go.Proofs.YtmnbakalcpanlaaGreatDoor

namespace Go.Proofs.YtmnbakalcpanlaaGreatDoor
open Go.ChangeShapes Go.WideShapes Go.ChangeAt Go.RowKit Go.Maps Go.WideMaps
set_option linter.unusedVariables false
set_option linter.unusedSimpArgs false

theorem ext_get (s : ByteArray) (p i : Nat) (h : p + i < s.size) : (s.extract p s.size).data.toList[i]? = some (s[p + i]'h) := by
  have hz : i < (s.extract p s.size).size := by rw [ByteArray.size_extract]; omega
  rw [Lib.data_getElem? _ i hz, ByteArray.getElem_extract]
theorem ext_out (s : ByteArray) (p i : Nat) (h : ¬ p + i < s.size) : (s.extract p s.size).data.toList[i]? = none := by
  apply List.getElem?_eq_none
  rw [Array.length_toList]
  show (s.extract p s.size).size ≤ i
  rw [ByteArray.size_extract]; omega
theorem pre2 (l : List UInt8) (c d : UInt8) : Lib.hasPrefix l [c, d] = (decide (l[0]? = some c) && decide (l[1]? = some d)) := by
  unfold Lib.hasPrefix
  match l with
  | [] => simp [List.isPrefixOf]
  | [a] => by_cases h : c = a <;> simp [List.isPrefixOf, h, eq_comm]
  | a :: e :: r => simp [List.isPrefixOf, beq_iff_eq, eq_comm, Bool.beq_eq_decide_eq]
theorem pre_bt (s : ByteArray) (p : Nat) (c d : UInt8) : Lib.hasPrefix (s.extract p s.size).data.toList [c, d] = decide (bt s p = c.toNat ∧ bt s (p + 1) = d.toNat) := by
  have key : ∀ (i : Nat) (c : UInt8), decide ((s.extract p s.size).data.toList[i]? = some c) = decide (bt s (p + i) = c.toNat) := by
    intro i c
    by_cases h : p + i < s.size
    · rw [ext_get s p i h, bt_in h]
      congr 1
      simp only [Option.some.injEq, eq_iff_iff]
      exact ⟨fun h => by rw [h], fun h => UInt8.toNat_inj.1 h⟩
    · rw [ext_out s p i h, bt_out h]
      have := c.toNat_lt
      simp
      omega
  rw [pre2, key 0 c, key 1 d]
  simp

set_option maxRecDepth 100000 in
set_option maxHeartbeats 2000000 in
theorem atNote_any (b : Nat) (s : ByteArray) (p : Nat) (hs : s.size ≤ 4294967280) (hp : p < s.size) (w : World) (hb : w.cell? ⟨b, 0, none⟩ = some (.string s)) :
    Calls Tryz.prog 30 #[.pointer (some ⟨b, 0, none⟩), .int .i64 (p : Int)] w fun e w' => e = .returned (.bool (decide (bt s p = 47 ∧ bt s (p + 1) = 47) || decide (bt s p = 47 ∧ bt s (p + 1) = 42))) ∧ w' = w := by
  have hp' : (p : Int) < (s.size : Int) := by omega
  have hbl : b < w.heap.size := World.block_lt_of_cell? _ _ hb
  have H1 : Hid (∀ v, Calls Tryz.prog 49 #[.string (s.extract p s.size), .string ⟨#[47, 47]⟩] v fun e w' => e = .returned (.bool (decide (bt s p = 47 ∧ bt s (p + 1) = 47))) ∧ w' = v) := fun v => by
    have h := Tryz.strings_HasPrefix (s.extract p s.size) ⟨#[47, 47]⟩ v
    have e := pre_bt s p 47 47
    have e2 : (⟨#[47, 47]⟩ : ByteArray).data.toList = [47, 47] := rfl
    rw [e2, e] at h
    exact h
  have H2 : Hid (∀ v, Calls Tryz.prog 49 #[.string (s.extract p s.size), .string ⟨#[47, 42]⟩] v fun e w' => e = .returned (.bool (decide (bt s p = 47 ∧ bt s (p + 1) = 42))) ∧ w' = v) := fun v => by
    have h := Tryz.strings_HasPrefix (s.extract p s.size) ⟨#[47, 42]⟩ v
    have e := pre_bt s p 47 42
    have e2 : (⟨#[47, 42]⟩ : ByteArray).data.toList = [47, 42] := rfl
    rw [e2, e] at h
    exact h
  obtain ⟨x, hx⟩ : ∃ x, decide (bt s p = 47 ∧ bt s (p + 1) = 47) = x := ⟨_, rfl⟩
  obtain ⟨y, hy⟩ : ∃ y, decide (bt s p = 47 ∧ bt s (p + 1) = 42) = y := ⟨_, rfl⟩
  rw [hx] at H1 ⊢
  rw [hy] at H2 ⊢
  clear hx hy
  cases x
  · go_enter Tryz.func30, Tryz.ntmps30
    go_wp2_with (first
      | (go_at_call 49; (with_reducible refine (H1.out _).mono ?_); rintro e w3 ⟨rfl, hw3⟩; subst hw3)
      | (go_at_call 49; (with_reducible refine (H2.out _).mono ?_); rintro e w3 ⟨rfl, hw3⟩; subst hw3))
    go_ret
    exact ⟨by simp, rfl⟩
  · go_enter Tryz.func30, Tryz.ntmps30
    go_wp2_with (go_at_call 49; (with_reducible refine (H1.out _).mono ?_); rintro e w3 ⟨rfl, hw3⟩; subst hw3)
    go_ret
    exact ⟨rfl, rfl⟩
end Go.Proofs.YtmnbakalcpanlaaGreatDoor

namespace Go.Proofs.YtmnbakalcpanlaaGreatDoor
open Go.ChangeShapes Go.WideShapes Go.ChangeAt Go.RowKit
set_option linter.unusedVariables false
set_option linter.unusedSimpArgs false

/-- a text's bytes from a place on -/
def dl (s : ByteArray) (k : Nat) : List UInt8 := (s.extract k s.size).data.toList
theorem dl_drop (s : ByteArray) (k : Nat) : dl s k = s.data.toList.drop k := by
  unfold dl
  have hu : s.data.toList.length = s.size := by rw [Array.length_toList]; rfl
  simp only [ByteArray.data_extract, Array.toList_extract, List.extract_eq_take_drop]
  rw [List.take_of_length_le]
  rw [List.length_drop, hu]
  omega
theorem dl_cons {s : ByteArray} {k : Nat} (h : k < s.size) : dl s k = s[k]'h :: dl s (k + 1) := by
  have hu : s.data.toList.length = s.size := by rw [Array.length_toList]; rfl
  rw [dl_drop, dl_drop, List.drop_eq_getElem_cons (by omega)]
  rfl
theorem dl_nil {s : ByteArray} {k : Nat} (h : ¬ k < s.size) : dl s k = [] := by
  have hu : s.data.toList.length = s.size := by rw [Array.length_toList]; rfl
  rw [dl_drop, List.drop_eq_nil_iff]
  omega
theorem fnd_in {s : ByteArray} {c k : Nat} (h : k < s.size) (hb : bt s k ≠ c) : fnd s c k = fnd s c (k + 1) := by rw [fnd, dif_pos ⟨h, hb⟩]
theorem fnd_out {s : ByteArray} {c k : Nat} (h : ¬ (k < s.size ∧ bt s k ≠ c)) : fnd s c k = k := by rw [fnd, dif_neg h]
theorem idx_fnd (s : ByteArray) (c : UInt8) : ∀ n k, s.size - k ≤ n → k ≤ s.size → Lib.indexByte (dl s k) c = if fnd s c.toNat k < s.size then ((fnd s c.toNat k : Nat) : Int) - (k : Int) else -1
  | n, k, hn, hk => by
    by_cases h : k < s.size
    · match n, hn with
      | 0, hn => omega
      | m + 1, hn =>
        rw [dl_cons h, Lib.indexByte]
        by_cases hb : s[k]'h = c
        · rw [fnd_out (by rw [bt_in h, hb]; simp), if_pos (by simp [hb]), if_pos h]; omega
        · have hb2 : bt s k ≠ c.toNat := by rw [bt_in h]; exact fun e => hb (UInt8.toNat_inj.1 e)
          have ih := idx_fnd s c m (k + 1) (by omega) (by omega)
          have hl := fnd_le s c.toNat (s.size - (k + 1)) (k + 1) (Nat.le_refl _) (by omega)
          rw [fnd_in h hb2, if_neg (by simp [hb]), ih]
          split
          · rw [if_neg (by simp; omega)]; omega
          · rfl
    · rw [dl_nil h, fnd_out (by omega), if_neg h]; rfl
theorem fn2_in {s : ByteArray} {c d k : Nat} (h : k < s.size) (hb : ¬ (bt s k = c ∧ bt s (k + 1) = d)) : fn2 s c d k = fn2 s c d (k + 1) := by rw [fn2, dif_pos h, if_neg hb]
theorem fn2_hit {s : ByteArray} {c d k : Nat} (h : k < s.size) (hb : bt s k = c ∧ bt s (k + 1) = d) : fn2 s c d k = some k := by rw [fn2, dif_pos h, if_pos hb]
theorem fn2_out {s : ByteArray} {c d k : Nat} (h : ¬ k < s.size) : fn2 s c d k = none := by rw [fn2, dif_neg h]
def o2I (k : Nat) : Option Nat → Int
  | some t => (t : Int) - (k : Int)
  | none => -1
theorem fn2_le (s : ByteArray) (c d : Nat) (hd : d < 256) : ∀ n k t, s.size - k ≤ n → fn2 s c d k = some t → k ≤ t ∧ t + 1 < s.size
  | n, k, t, hn, h => by
    by_cases hk : k < s.size
    · by_cases hb : bt s k = c ∧ bt s (k + 1) = d
      · rw [fn2_hit hk hb] at h; cases h
        refine ⟨Nat.le_refl _, ?_⟩
        by_cases h2 : k + 1 < s.size
        · exact h2
        · have := bt_out h2; omega
      · rw [fn2_in hk hb] at h
        match n, hn with
        | 0, hn => omega
        | m + 1, hn => have := fn2_le s c d hd m (k + 1) t (by omega) h; omega
    · rw [fn2_out hk] at h; cases h
theorem idx_fn2 (s : ByteArray) (c d : UInt8) : ∀ n k, s.size - k ≤ n → k ≤ s.size → Lib.index (dl s k) [c, d] = o2I k (fn2 s c.toNat d.toNat k)
  | n, k, hn, hk => by
    by_cases h : k < s.size
    · match n, hn with
      | 0, hn => omega
      | m + 1, hn =>
        have hp := pre_bt s k c d
        unfold Lib.hasPrefix at hp
        have e : (s.extract k s.size).data.toList = s[k]'h :: dl s (k + 1) := dl_cons h
        rw [e] at hp
        rw [dl_cons h, Lib.index, hp]
        by_cases hb : bt s k = c.toNat ∧ bt s (k + 1) = d.toNat
        · rw [fn2_hit h hb, if_pos (by simp [hb])]; simp [o2I]
        · have ih := idx_fn2 s c d m (k + 1) (by omega) (by omega)
          rw [fn2_in h hb, if_neg (by simpa using hb), ih]
          cases hf : fn2 s c.toNat d.toNat (k + 1) with
          | none => rfl
          | some t =>
            have := fn2_le s c.toNat d.toNat d.toNat_lt (s.size - (k + 1)) (k + 1) t (Nat.le_refl _) hf
            have e1 : o2I (k + 1) (some t) = (t : Int) - ((k + 1 : Nat) : Int) := rfl
            have e2 : (o2I (k + 1) (some t) == -1) = false := by rw [e1, beq_eq_false_iff_ne]; omega
            rw [e2, e1]
            show (t : Int) - ((k + 1 : Nat) : Int) + 1 = (t : Int) - (k : Int)
            omega
    · rw [dl_nil h, fn2_out h]; rfl
/-- a comment -/
def noO (p : Nat) : Option Nat → Pce
  | some k => .ok 1 (k + 2)
  | none => .no 23 p
def noP (s : ByteArray) (p : Nat) : Pce := if bt s (p + 1) = 47 then .ok 1 (fnd s 10 p) else noO p (fn2 s 42 47 (p + 2))
end Go.Proofs.YtmnbakalcpanlaaGreatDoor
