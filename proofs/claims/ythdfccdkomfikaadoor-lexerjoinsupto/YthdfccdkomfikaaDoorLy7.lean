import Derived.Test.YthdfccdkomfikaaDoorLy6
import Derived.Maps.Own
import Derived.Maps.OwnSet
namespace Go.Proofs.YthdfccdkomfikaaDoor
open Go.ChangeShapes Go.WideShapes Go.ChangeAt Go.RowKit Go.Maps Go.WideMaps
set_option linter.unusedVariables false
set_option linter.unusedSimpArgs false

/-- the spellings by kind -/
def spl : List (List UInt8) := [[], [], [], [], [], [], []] ++ wds ++ mks
theorem spl_len : spl.length = 80 := by decide
/-- the table of the spellings stands -/
def Spl (w : World) : Prop := 0 < w.heap.size ∧ ∀ i, i < 80 → w.cell? ⟨0, i, none⟩ = some (.string ⟨(spl.getD i []).toArray⟩)
theorem Spl.below {w w' : World} (h : Spl w) (hb : Below w.heap.size w w') : Spl w' := ⟨Nat.lt_of_lt_of_le h.1 hb.size, fun i hi => (hb.cell (p := ⟨0, i, none⟩) h.1).trans (h.2 i hi)⟩
theorem spl_wd (k : Nat) (h : k < 25) : spl.getD (7 + k) [] = wds.getD k [] := by
  have : ∀ k, k < 25 → spl.getD (7 + k) [] = wds.getD k [] := by decide
  exact this k h
/-- the keywords, as a map reads -/
def KW : Nat → DataW Unit
  | 0 => .map []
  | k + 1 => (KW k).put (.string (wds.getD k [])) (.lit (.int .u8 ((7 + k : Nat) : Int)))
theorem lawS : Keyed Tryd.prog 9 := string_keyed Tryd.underlying9
theorem wd_short (k : Nat) : (wds.getD k []).length ≤ 11 := by
  by_cases h : k < 25
  · have : ∀ k, k < 25 → (wds.getD k []).length ≤ 11 := by decide
    exact this k h
  · have h25 : wds.length = 25 := by decide
    rw [List.getD_eq_getElem?_getD, List.getElem?_eq_none (by omega)]; simp

set_option maxRecDepth 100000 in
set_option maxHeartbeats 2000000 in
theorem keywords_any (w : World) (hS : Spl w) :
    Calls Tryd.prog 17 #[] w fun e w' => e = .returned (.map (some w.heap.size)) ∧ w'.ownsMap Tryd.prog 9 (plainElem (H := Unit) Tryd.prog 29) w.heap.size 25 (KW 25) ∧ Below w.heap.size w w' := by
  have hmm := @run_makeMap Tryd.prog
  have HS : Hid (∀ v, Below w.heap.size w v → Spl v) := fun v hv => hS.below hv
  have hg0 := hS.1
  clear hS
  go_enter Tryd.func17, Tryd.ntmps17
  go_wp2
  go_loopw [2] (fun i wr => ∃ k : Nat, k ≤ 25 ∧ i = .int .u8 ((7 + k : Nat) : Int) ∧ wr.ownsMap Tryd.prog 9 (plainElem (H := Unit) Tryd.prog 29) w.heap.size k (KW k) ∧ Below w.heap.size w wr) (fun i _ => 32 - (intOf i).toNat)
  case atStart => exact ⟨0, Nat.zero_le _, rfl, World.ownsMap_made _ _ _ _, (Below.refl _ _).alloc (Nat.le_refl _) _⟩
  case round =>
    obtain ⟨k, hk, rfl, hown, hnx⟩ := hrel
    have HO : Hid (wr.ownsMap Tryd.prog 9 (plainElem (H := Unit) Tryd.prog 29) w.heap.size k (KW k)) := hown
    have HB : Hid (Below w.heap.size w wr) := hnx
    clear hown
    by_cases hlt : k < 25
    · have hle : (7 : Int) + (k : Int) ≤ 31 := by omega
      have hle2 : (((7 + k : Nat) : Int)) ≤ 31 := by omega
      have hc0 := (HS.out wr HB.out).2 (7 + k) (by omega)
      rw [spl_wd k hlt] at hc0
      obtain ⟨T, hT⟩ : ∃ T : ByteArray, ⟨(wds.getD k []).toArray⟩ = T := ⟨_, rfl⟩
      rw [hT] at hc0
      have HKEY : Hid (keyOf Tryd.prog 9 (.string T) = some (.string (wds.getD k []))) := by
        unfold Hid
        rw [← hT, keyOf_string_mk Tryd.underlying9 (by have := wd_short k; show (wds.getD k []).toArray.size ≤ maxLen; unfold maxLen; rw [List.size_toArray]; omega)]
      have hgr : 0 < wr.heap.size := by have := HB.out.size; omega
      have HST : Hid ((KW k).put (.string (wds.getD k [])) (.lit (.int .u8 ((7 + k : Nat) : Int))) = KW (k + 1)) := rfl
      clear hT hnx
      go_wp2_with (at_mapUpdate; refine wpList_mapUpdate_own _ rfl _ _ _ 46 rfl 9 29 lawS Tryd.underlying46 _ w.heap.size k _ rfl HO.out (by unfold maxLen; omega) _ _ _ rfl rfl HKEY.out _ [] (plainElem_int Tryd.underlying29 (WalkArith.wf_u8 ⟨by omega, by omega⟩)) ?_; intro w1 hown1 hgrow1)
      have R1 : Hid (w1.ownsMap Tryd.prog 9 (plainElem (H := Unit) Tryd.prog 29) w.heap.size (k + 1) (KW (k + 1))) := hown1
      have R2 : Hid (Below w.heap.size w w1) := HB.out.grown hgrow1 HB.out.size (fun j hj => by cases hj; exact Nat.le_refl _)
      clear hown1 hgrow1
      go_wp2
      go_roundw
      case rel => exact ⟨k + 1, by omega, by go_num, R1.out, R2.out⟩
      case measure => simp [intOf]; omega
    · have hk25 : k = 25 := by omega
      subst hk25
      go_wp2
      go_ret
      exact ⟨rfl, HO.out, HB.out⟩
end Go.Proofs.YthdfccdkomfikaaDoor
