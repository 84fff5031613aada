import Derived.Test.YtphejjghgalkpaaGreatDoorRlE
import Derived.Tactics
import Derived.Tactics2
import Derived.Defers
import Derived.Laws.Pointers
import Derived.Laws.LoneSync
import Derived.RegionTactic
import Derived.RegionCalls
import Derived.ChangeAlike
import Derived.Laws.NewBlocks
import Derived.Laws.EntriesVeiled
import Derived.Test.YtphejjghgalkpaaGreatDoorLc2
import Derived.Test.YtphejjghgalkpaaGreatDoorLmy
import Derived.Test.YtphejjghgalkpaaGreatDoorRl7
import Derived.Test.YtphejjghgalkpaaGreatDoorLmu
namespace Go.Proofs.YtphejjghgalkpaaGreatDoor
open Go.ChangeShapes Go.WideShapes Go.ChangeAt Go.RowKit Go.Maps Go.WideMaps
set_option linter.unusedVariables false
set_option linter.unusedSimpArgs false

theorem o_disable (w : World) : (callFunc 141 #[]).run Tryz.prog w = .ok (.value (.tuple #[])) w := run_call_mark0 Tryz.func141 (by kernel_rfl) (by kernel_rfl) (by kernel_rfl) .disable (by kernel_rfl) w
theorem o_enable (w : World) : (callFunc 143 #[]).run Tryz.prog w = .ok (.value (.tuple #[])) w := run_call_mark0 Tryz.func143 (by kernel_rfl) (by kernel_rfl) (by kernel_rfl) .enable (by kernel_rfl) w
theorem o_acquire (a : Addr) (w : World) : (callFunc 144 #[.pointer (some a)]).run Tryz.prog w = .ok (.value (.tuple #[])) w := run_call_marked Tryz.func144 (by kernel_rfl) (by kernel_rfl) (by kernel_rfl) .acquire (by kernel_rfl) a w
theorem o_release (a : Addr) (w : World) : (callFunc 146 #[.pointer (some a)]).run Tryz.prog w = .ok (.value (.tuple #[])) w := run_call_marked Tryz.func146 (by kernel_rfl) (by kernel_rfl) (by kernel_rfl) .releaseMerge (by kernel_rfl) a w

/-- done is stored, as a deferred call -/
theorem o_store (a : Addr) (x : Value) (u : FrameMode) (w : World) (hc : w.cell? a = some x) (hz : w.frozen? a = false) :
    CallsD Tryz.prog 134 #[.pointer (some a), .bool true] u w fun e u' w' => u' = u ∧ (e = .returned (.tuple #[]) ∧ w' = w.drew.setCell a (.int .u32 1)) := by
  have hc' : w.drew.cell? a = some x := by go_simp
  have hz' : w.drew.frozen? a = false := by go_simp
  have hst := run_call_store (P := Tryz.prog) Tryz.func139 (by kernel_rfl) (by kernel_rfl) (by kernel_rfl) (by kernel_rfl) (k := .u32) (y := 1) hc' hz'
  go_enter_d Tryz.func134, Tryz.ntmps134
  go_wp2
  go_region_calls
  all_goals (go_end0; exact ⟨rfl, rfl⟩)
set_option maxRecDepth 1000000 in
set_option maxHeartbeats 4000000 in
/-- the lock is let go, as a deferred call -/
theorem o_unlock (a : Addr) (u : FrameMode) (w : World) (hc : w.cell? a = some (.int .i32 1)) (hz : w.frozen? a = false) :
    CallsD Tryz.prog 133 #[.pointer (some a)] u w fun e u' w' => u' = u ∧ (e = .returned (.tuple #[]) ∧ w' = w.setCell a (.int .i32 0)) := by
  have hd := o_disable
  have he := o_enable
  have hr := o_release
  have hadd := run_call_add (P := Tryz.prog) Tryz.func147 (by kernel_rfl) (by kernel_rfl) (by kernel_rfl) .i32 (by kernel_rfl) (y := -1) (s := 0) hc hz (by simp [go_sem]; rfl)
  have hcv := run_convert_to_unsafe (P := Tryz.prog) (src := 205) (dst := 209) Tryz.underlying205 Tryz.underlying209 (by kernel_rfl) hc
  go_enter_d Tryz.func133, Tryz.ntmps133
  go_wp2
  go_end0
  go_wp2
set_option maxRecDepth 1000000 in
set_option maxHeartbeats 4000000 in
/-- the lock is taken -/
theorem o_lock (a : Addr) (w : World) (hc : w.cell? a = some (.int .i32 0)) (hz : w.frozen? a = false) :
    Calls Tryz.prog 132 #[.pointer (some a)] w fun e w' => e = .returned (.tuple #[]) ∧ w' = w.setCell a (.int .i32 1) := by
  have hd := o_disable
  have he := o_enable
  have ha := o_acquire
  have hcas := run_call_cas_hit (P := Tryz.prog) Tryz.func142 (by kernel_rfl) (by kernel_rfl) (by kernel_rfl) .i32 (by kernel_rfl) (y := 1) hc hz
  have hc' : (w.setCell a (.int .i32 1)).cell? a = some (.int .i32 1) := World.cell?_setCell_same w a _ hc
  have hcv := run_convert_to_unsafe (P := Tryz.prog) (src := 205) (dst := 209) Tryz.underlying205 Tryz.underlying209 (by kernel_rfl) hc'
  go_enter Tryz.func132, Tryz.ntmps132
  go_wp2
  first | go_end0 | (simp only [Exit.inBlock, Exit.then]; refine bodyPost_ret (results_none rfl _ _ _) rfl ?_) | refine bodyPost_ret (results_none rfl _ _ _) rfl ?_
  go_wp2
end Go.Proofs.YtphejjghgalkpaaGreatDoor

namespace Go.Proofs.YtphejjghgalkpaaGreatDoor
open Go.ChangeShapes Go.WideShapes Go.ChangeAt Go.RowKit
set_option linter.unusedVariables false
set_option linter.unusedSimpArgs false

/-- tokens follow one another without a gap up to the end; only autos are empty; no blanks side by side; each token is itself when cut anew -/
def Chn (s : ByteArray) : Nat → Bool → List Tk → Prop
  | p, _, [] => p = s.size
  | p, b, q :: r => ∃ k t : Nat, q = ⟨k, p, t⟩ ∧ p ≤ t ∧ t ≤ s.size ∧ k < 80 ∧ (k = 6 ↔ p = t) ∧ (b = true → k ≠ 0) ∧ (2 ≤ k → k ≠ 6 → cut (s.extract p t) 0 = ([(⟨k, 0, (s.extract p t).size⟩ : Tk)], none)) ∧ Chn s t (decide (k = 0)) r
theorem chn_cut (s : ByteArray) : ∀ m p (b : Bool), s.size - p ≤ m → p ≤ s.size → (cut s p).2 = none → (b = true → blk (bt s p) = false) → Chn s p b (wau s (cut s p).1)
  | m, p, b, hm, hps, h, hb => by
    by_cases hp : p < s.size
    · cases hc : pce s p with
      | no y z => rw [cut_no hp hc] at h; cases h
      | ok k t =>
        rw [cut_ok hp hc] at h ⊢
        obtain ⟨t1, t2, t3⟩ := pce_ok hp hc
        have hs := pce_stop hp hc
        have hsh := pce_shape hp hc
        have k6 : k ≠ 6 := by
          rcases hsh with e | e | e | e | e | e <;> omega
        have ih : Chn s t (decide (k = 0)) (wau s (cut s t).1) := by
          match m, hm with
          | 0, hm => omega
          | m + 1, hm =>
            refine chn_cut s m t _ (by omega) t2 h fun h0 => hs.1 (of_decide_eq_true h0)
        rw [wau]
        simp only [Int.toNat_natCast]
        refine ⟨k, t, rfl, by omega, t2, t3, by omega, fun hb' => ?_, fun _ _ => cut_self hp hc, ?_⟩
        · intro h0
          rcases hsh with e | e | e | e | e | e
          · rw [hb hb'] at e; exact absurd e.2.1 (by simp)
          all_goals omega
        · by_cases ha : (ask k && aft s (cut s t).1) = true
          · have hk0 : k ≠ 0 := by
              intro h0
              subst h0
              have : ask 0 = false := by decide
              rw [this] at ha
              cases ha
            rw [if_pos ha]
            refine ⟨6, t, rfl, by omega, t2, by omega, by omega, by omega, by omega, ?_⟩
            have e : decide (k = 0) = false := by simp [hk0]
            rw [e] at ih
            exact ih
          · rw [if_neg ha]
            simpa using ih
    · rw [cut_end hp]
      show p = s.size
      omega
theorem chn_at {s : ByteArray} : ∀ (L : List Tk) (p : Nat) (b : Bool) (i : Nat), Chn s p b L → i < L.length → ∃ p' b', Chn s p' b' (L.drop i) ∧ (i = 0 → p' = p ∧ b' = b)
  | q :: r, p, b, 0, h, hi => ⟨p, b, h, fun _ => ⟨rfl, rfl⟩⟩
  | q :: r, p, b, i + 1, h, hi => by
    obtain ⟨k, t, -, -, -, -, -, -, -, h8⟩ := h
    cases r with
    | nil => simp at hi
    | cons q' r' =>
      obtain ⟨p', b', h1, -⟩ := chn_at (q' :: r') t _ i h8 (by simpa using hi)
      exact ⟨p', b', h1, fun h => by omega⟩
end Go.Proofs.YtphejjghgalkpaaGreatDoor

namespace Go.Proofs.YtphejjghgalkpaaGreatDoor
open Go.ChangeShapes Go.WideShapes Go.ChangeAt Go.RowKit
set_option linter.unusedVariables false
set_option linter.unusedSimpArgs false

theorem mks48 : mks.length = 48 := by decide
theorem wds25 : wds.length = 25 := by decide
/-- the spelling of a kind, as the reference has it -/
def spR (k : Nat) : List UInt8 := if k < 7 then [] else if k < 32 then wds.getD (k - 7) [] else mks.getD (k - 32) []
theorem spR_80 (k : Nat) (h : 80 ≤ k) : spR k = [] := by
  unfold spR
  rw [if_neg (by omega), if_neg (by omega), List.getD_eq_getElem?_getD, List.getElem?_eq_none (by rw [mks48]; omega)]
  rfl
set_option maxRecDepth 1000000 in
set_option maxHeartbeats 8000000 in
theorem rSpell_any (k : Nat) (w : World) (hkb : k < 1000) :
    Calls Tryz.prog 72 #[.int .i64 (k : Int)] w fun e w' => e = .returned (.string ⟨(spR k).toArray⟩) ∧ Below w.heap.size w w' := by
  obtain ⟨w1, e1⟩ : ∃ w1, w.alloc (.cells (strV wds).toArray 9) = w1 := ⟨_, rfl⟩
  obtain ⟨w2, e2⟩ : ∃ w2, w1.alloc (.cells (strV mks).toArray 9) = w2 := ⟨_, rfl⟩
  have hb1 : Below w.heap.size w w1 := by rw [← e1]; exact (Below.refl _ _).alloc (Nat.le_refl _) _
  have hz1 : w1.heap.size = w.heap.size + 1 := by rw [← e1]; simp
  have hb2 : Below w.heap.size w w2 := by rw [← e2]; exact hb1.alloc hb1.size _
  have HB2 : Hid (Below w.heap.size w w2) := hb2
  have HW : Hid (Calls Tryz.prog 97 #[] w fun e w' => e = .returned (.slice (some ⟨w.heap.size, 0, none⟩) 25 25) ∧ w' = w1) := by rw [← e1]; exact words_any w
  have HM : Hid (Calls Tryz.prog 100 #[] w1 fun e w' => e = .returned (.slice (some ⟨w1.heap.size, 0, none⟩) 48 48) ∧ w' = w2) := by rw [← e2]; exact marks_any w1
  have hm : ∀ i, i < 48 → w2.cell? ⟨w1.heap.size, i, none⟩ = some (.string ⟨(mks.getD i []).toArray⟩) := fun i hi => by rw [← e2]; exact strV_get mks i (Nat.lt_of_lt_of_eq hi mks48.symm) w1
  have hw : ∀ i, i < 25 → w2.cell? ⟨w.heap.size, i, none⟩ = some (.string ⟨(wds.getD i []).toArray⟩) := fun i hi => by
    have h1 : w1.cell? ⟨w.heap.size, i, none⟩ = some (.string ⟨(wds.getD i []).toArray⟩) := by rw [← e1]; exact strV_get wds i (Nat.lt_of_lt_of_eq hi wds25.symm) w
    rw [← e2]
    exact (((Below.refl w1.heap.size w1).alloc (Nat.le_refl _) (.cells (strV mks).toArray 9)).cell (p := ⟨w.heap.size, i, none⟩) (by show w.heap.size < w1.heap.size; omega)).trans h1
  clear e1 e2 hb1 hb2
  obtain ⟨g, hg⟩ : ∃ g, w1.heap.size = g := ⟨_, rfl⟩
  rw [hg] at HM hm hz1
  obtain ⟨S, hS⟩ : ∃ S : ByteArray, (⟨(spR k).toArray⟩ : ByteArray) = S := ⟨_, rfl⟩
  rw [hS]
  clear hz1 hg
  by_cases h7 : k < 7
  · have hs : spR k = [] := by unfold spR; rw [if_pos h7]
    rw [hs] at hS
    have c1 : ¬ (k : Int) ≥ 7 := by omega
    have c2 : ¬ (k : Int) ≥ 32 := by omega
    subst hS
    clear hm hw hs h7 hkb
    go_enter Tryz.func72, Tryz.ntmps72
    go_wp2_with (first
      | (go_at_call 97; (with_reducible refine HW.out.mono ?_); rintro e w3 ⟨rfl, hw3⟩; subst hw3)
      | (go_at_call 100; (with_reducible refine HM.out.mono ?_); rintro e w3 ⟨rfl, hw3⟩; subst hw3))
    go_ret
    exact ⟨rfl, HB2.out⟩
  by_cases h32 : k < 32
  · have hs : spR k = wds.getD (k - 7) [] := by unfold spR; rw [if_neg h7, if_pos h32]
    rw [hs] at hS
    have c1 : (k : Int) ≥ 7 := by omega
    have c2 : (k : Int) < 32 := by omega
    obtain ⟨i, hi⟩ : ∃ i, k - 7 = i := ⟨_, rfl⟩
    have hki : (k : Int) - 7 = (i : Int) := by omega
    have hc := hw i (by omega)
    rw [hi] at hS
    rw [hS] at hc
    have ci : (i : Int) < 25 := by omega
    have ci2 : i < 25 := by omega
    clear hm hw hs h7 h32 hkb hi hS
    go_enter Tryz.func72, Tryz.ntmps72
    go_wp2_with (first
      | (go_at_call 97; (with_reducible refine HW.out.mono ?_); rintro e w3 ⟨rfl, hw3⟩; subst hw3)
      | (go_at_call 100; (with_reducible refine HM.out.mono ?_); rintro e w3 ⟨rfl, hw3⟩; subst hw3))
    go_ret
    exact ⟨rfl, HB2.out⟩
  by_cases h80 : k < 80
  · have hs : spR k = mks.getD (k - 32) [] := by unfold spR; rw [if_neg h7, if_neg h32]
    rw [hs] at hS
    have c1 : (k : Int) ≥ 7 := by omega
    have c2 : ¬ (k : Int) < 32 := by omega
    have c3 : (k : Int) ≥ 32 := by omega
    have c4 : (k : Int) < 80 := by omega
    obtain ⟨i, hi⟩ : ∃ i, k - 32 = i := ⟨_, rfl⟩
    have hki : (k : Int) - 32 = (i : Int) := by omega
    have hc := hm i (by omega)
    rw [hi] at hS
    rw [hS] at hc
    have ci : (i : Int) < 48 := by omega
    have ci2 : i < 48 := by omega
    clear hm hw hs h7 h32 hkb hi hS h80
    go_enter Tryz.func72, Tryz.ntmps72
    go_wp2_with (first
      | (go_at_call 97; (with_reducible refine HW.out.mono ?_); rintro e w3 ⟨rfl, hw3⟩; subst hw3)
      | (go_at_call 100; (with_reducible refine HM.out.mono ?_); rintro e w3 ⟨rfl, hw3⟩; subst hw3))
    go_ret
    exact ⟨rfl, HB2.out⟩
  · rw [spR_80 k (by omega)] at hS
    have c1 : (k : Int) ≥ 7 := by omega
    have c2 : ¬ (k : Int) < 32 := by omega
    have c3 : (k : Int) ≥ 32 := by omega
    have c4 : ¬ (k : Int) < 80 := by omega
    subst hS
    clear hm hw h7 h32 h80
    go_enter Tryz.func72, Tryz.ntmps72
    go_wp2_with (first
      | (go_at_call 97; (with_reducible refine HW.out.mono ?_); rintro e w3 ⟨rfl, hw3⟩; subst hw3)
      | (go_at_call 100; (with_reducible refine HM.out.mono ?_); rintro e w3 ⟨rfl, hw3⟩; subst hw3))
    go_ret
    exact ⟨rfl, HB2.out⟩
end Go.Proofs.YtphejjghgalkpaaGreatDoor

namespace Go.Proofs.YtphejjghgalkpaaGreatDoor
open Go.ChangeShapes Go.WideShapes Go.ChangeAt Go.RowKit
set_option linter.unusedVariables false
set_option linter.unusedSimpArgs false

/-- the spellings behind which a semicolon may stand -/
def akl : List (List UInt8) := [[98, 114, 101, 97, 107], [99, 111, 110, 116, 105, 110, 117, 101], [102, 97, 108, 108, 116, 104, 114, 111, 117, 103, 104], [114, 101, 116, 117, 114, 110], [43, 43], [45, 45], [41], [93], [125]]
theorem akl9 : akl.length = 9 := by decide
set_option maxRecDepth 100000 in
theorem akl_yes : ∀ k, k < 80 → ¬ (2 ≤ k ∧ k ≤ 5) → ∀ i, i < 9 → akl.getD i [] = spR k → ask k = true := by decide
set_option maxRecDepth 100000 in
theorem akl_no : ∀ k, k < 80 → ¬ (2 ≤ k ∧ k ≤ 5) → (∀ i, i < 9 → akl.getD i [] ≠ spR k) → ask k = false := by
  have key : ∀ k, k < 80 → ¬ (2 ≤ k ∧ k ≤ 5) → ask k = true → ∃ i, i < 9 ∧ akl.getD i [] = spR k := by decide
  intro k hk h h9
  cases ha : ask k with
  | false => rfl
  | true =>
    obtain ⟨i, hi, e⟩ := key k hk h ha
    exact absurd e (h9 i hi)
theorem ask_mid : ∀ k, 2 ≤ k → k ≤ 5 → ask k = true := by
  intro k h1 h2
  have : ∀ k, k < 6 → 2 ≤ k → ask k = true := by decide
  exact this k (by omega) h1

set_option maxRecDepth 1000000 in
set_option maxHeartbeats 8000000 in
theorem rasks_any (k : Nat) (hk : k < 80) (w : World) :
    Calls Tryz.prog 33 #[.int .i64 (k : Int)] w fun e w' => e = .returned (.bool (ask k)) ∧ Below w.heap.size w w' := by
  by_cases hm : 2 ≤ k ∧ k ≤ 5
  · rw [ask_mid k hm.1 hm.2]
    have c1 : (k : Int) ≥ 2 := by omega
    have c2 : (k : Int) ≤ 5 := by omega
    go_enter Tryz.func33, Tryz.ntmps33
    go_wp2
    go_ret
    exact ⟨rfl, Below.refl _ _⟩
  · obtain ⟨S, hS⟩ : ∃ S : ByteArray, (⟨(spR k).toArray⟩ : ByteArray) = S := ⟨_, rfl⟩
    have hSl : S.data.toList = spR k := by rw [← hS]
    have HSP : Hid (Calls Tryz.prog 72 #[.int .i64 (k : Int)] w fun e w' => e = .returned (.string S) ∧ Below w.heap.size w w') := by rw [← hS]; exact rSpell_any k w (by omega)
    have HY : Hid (∀ i, i < 9 → akl.getD i [] = S.data.toList → ask k = true) := by unfold Hid; rw [hSl]; exact akl_yes k hk hm
    have HN : Hid ((∀ i, i < 9 → akl.getD i [] ≠ S.data.toList) → ask k = false) := by unfold Hid; rw [hSl]; exact akl_no k hk hm
    obtain ⟨b, hb⟩ : ∃ b, ask k = b := ⟨_, rfl⟩
    rw [hb] at HY HN ⊢
    have hcc : (¬ (k : Int) ≥ 2) ∨ ((k : Int) ≥ 2 ∧ ¬ (k : Int) ≤ 5) := by omega
    clear hS hSl hm hb
    rcases hcc with c1 | ⟨c1, c2⟩
    all_goals
      go_enter Tryz.func33, Tryz.ntmps33
      go_wp2_with (go_at_call 72; (with_reducible refine HSP.out.mono ?_); rintro e w3 ⟨rfl, hb3⟩; have HB3 : Hid (Below w.heap.size w w3) := hb3; clear hb3)
      obtain ⟨w4, e4⟩ : ∃ w4, w3.alloc (.cells (strV akl).toArray 9) = w4 := ⟨_, rfl⟩
      have HC4 : Hid (∀ i, i < 9 → w4.cell? ⟨w3.heap.size, i, none⟩ = some (.string ⟨(akl.getD i []).toArray⟩)) := by intro i hi; rw [← e4]; exact strV_get akl i (Nat.lt_of_lt_of_eq hi akl9.symm) w3
      have HB4 : Hid (Below w.heap.size w w4) := by unfold Hid; rw [← e4]; exact HB3.out.alloc HB3.out.size _
      have hz4 : w3.heap.size < w4.heap.size := by rw [← e4]; simp
      have e5 : w3.alloc (.cells #[.string ⟨#[98, 114, 101, 97, 107]⟩, .string ⟨#[99, 111, 110, 116, 105, 110, 117, 101]⟩, .string ⟨#[102, 97, 108, 108, 116, 104, 114, 111, 117, 103, 104]⟩, .string ⟨#[114, 101, 116, 117, 114, 110]⟩, .string ⟨#[43, 43]⟩, .string ⟨#[45, 45]⟩, .string ⟨#[41]⟩, .string ⟨#[93]⟩, .string ⟨#[125]⟩] 9) = w4 := e4
      rw [e5]
      clear e4 e5
      generalize w3.heap.size = g at *
      go_loopw [16] (fun si wi => ∃ i : Nat, i ≤ 9 ∧ si = .int .i64 (i : Int) ∧ (∀ j, j < i → akl.getD j [] ≠ S.data.toList) ∧ wi = w4) (fun si _ => 9 - (intOf si).toNat)
      case atStart => exact ⟨0, by omega, rfl, fun j hj => by omega, by first | rfl | trivial⟩
      case round =>
        obtain ⟨i, hi9, rfl, hno, rfl⟩ := hrel
        have HNO : Hid (∀ j, j < i → akl.getD j [] ≠ S.data.toList) := hno
        clear hno
        by_cases hlt : i < 9
        · have hlt' : (i : Int) < 9 := by omega
          have c4 := HC4.out i hlt
          have hq := str_lit S (akl.getD i [])
          obtain ⟨W, hW⟩ : ∃ W : ByteArray, ⟨(akl.getD i []).toArray⟩ = W := ⟨_, rfl⟩
          rw [hW] at c4 hq
          by_cases hit : akl.getD i [] = S.data.toList
          · rw [decide_eq_true hit] at hq
            have hbt := HY.out i hlt hit
            subst hbt
            clear hit hW
            go_wp2
            go_ret
            exact ⟨rfl, HB4.out⟩
          · rw [decide_eq_false hit] at hq
            have HN2 : Hid (∀ j, j < i + 1 → akl.getD j [] ≠ S.data.toList) := fun j hj => by
              by_cases h : j = i
              · subst h; exact hit
              · exact HNO.out j (by omega)
            clear hit hW
            go_wp2
            go_roundw
            case rel => exact ⟨i + 1, by omega, by go_num, HN2.out, by first | rfl | trivial⟩
            case measure => simp [intOf]; omega
        · have hge : ¬ (i : Int) < 9 := by omega
          have hbf := HN.out (fun j hj => HNO.out j (by omega))
          subst hbf
          go_wp2
          go_ret
          exact ⟨rfl, HB4.out⟩
end Go.Proofs.YtphejjghgalkpaaGreatDoor
