import Derived.Test.YtlgddkkpngfmfaaDoorLmv
import Derived.Test.YtlgddkkpngfmfaaDoorLmw
import Derived.Laws.Cover1
import Derived.Lib.Strings
namespace Go.Proofs.YtlgddkkpngfmfaaDoor
open Go.ChangeShapes Go.WideShapes Go.ChangeAt Go.RowKit Go.Maps Go.WideMaps
set_option linter.unusedVariables false
set_option linter.unusedSimpArgs false

theorem spl_out (k : Nat) (h : k < 7 ∨ 80 ≤ k) : spl.getD k [] = [] := by
  rcases h with h | h
  · have : ∀ k, k < 7 → spl.getD k [] = [] := by decide
    exact this k h
  · rw [List.getD_eq_getElem?_getD, List.getElem?_eq_none (by rw [spl_len]; exact h)]; rfl
set_option maxRecDepth 1000000 in
set_option maxHeartbeats 4000000 in
theorem Spell_any (k : Nat) (hk : k < 256) (w : World) (hS : Spl w) :
    Calls Tryd.prog 8 #[.int .u8 (k : Int)] w fun e w' => e = .returned (.string (sq (spl.getD k []))) ∧ w' = w := by
  by_cases h : 80 ≤ k
  · rw [spl_out k (.inr h)]
    have h' : (k : Int) ≥ 80 := by omega
    go_enter Tryd.func8, Tryd.ntmps8
    go_wp2
    go_ret
    exact ⟨rfl, rfl⟩
  · have h' : ¬ (k : Int) ≥ 80 := by omega
    have c0 : w.cell? ⟨0, k, none⟩ = some (.string (sq (spl.getD k []))) := hS.2 k (by omega)
    have g0 := hS.1
    have hk80 : k < 80 := by omega
    clear hS
    obtain ⟨S, hSS⟩ : ∃ S, sq (spl.getD k []) = S := ⟨_, rfl⟩
    rw [hSS] at c0 ⊢
    clear hSS
    go_enter Tryd.func8, Tryd.ntmps8
    go_wp2
    go_ret
    exact ⟨rfl, rfl⟩
set_option maxRecDepth 1000000 in
set_option maxHeartbeats 4000000 in
theorem Words_any (w : World) : Calls Tryd.prog 10 #[] w fun e w' => e = .returned (.slice (some ⟨w.heap.size, 0, none⟩) 25 25) ∧ Below w.heap.size w w' := by
  go_enter Tryd.func10, Tryd.ntmps10
  go_wp2
  go_ret
  exact ⟨rfl, by go_grown⟩
set_option maxRecDepth 1000000 in
set_option maxHeartbeats 4000000 in
theorem Marks_any (w : World) : Calls Tryd.prog 11 #[] w fun e w' => e = .returned (.slice (some ⟨w.heap.size, 0, none⟩) 48 48) ∧ Below w.heap.size w w' := by
  go_enter Tryd.func11, Tryd.ntmps11
  go_wp2
  go_ret
  exact ⟨rfl, by go_grown⟩
/-- how many kinds below one are spelled -/
def cnt (k : Nat) : Nat := if k < 7 then 0 else if k ≤ 80 then k - 7 else 73

set_option maxRecDepth 1000000 in
set_option maxHeartbeats 8000000 in
theorem lexerTable_walk (w : World) (hS : Spl w) (hT : Lt w) (hM : ∃ m, w.cell? ⟨3, 0, none⟩ = some (.int .i64 m)) :
    Calls Tryd.prog 4 #[] w fun e w' => e = .returned (.bool true) ∧ Below w.heap.size w w' := by
  have HM : Hid (∀ v, Below w.heap.size w v → ∃ m, v.cell? ⟨3, 0, none⟩ = some (.int .i64 m)) := fun v hv => by
    obtain ⟨m, hm⟩ := hM
    exact ⟨m, (hv.cell (p := ⟨3, 0, none⟩) (World.block_lt_of_cell? _ _ hm)).trans hm⟩
  have HS : Hid (∀ v, Below w.heap.size w v → Spl v) := fun v hv => hS.below hv
  have HT : Hid (∀ v, Below w.heap.size w v → Lt v) := fun v hv => hT.below hv
  clear hS hT hM
  go_enter Tryd.func4, Tryd.ntmps4
  go_wp2
  go_loopw [1, 2] (fun sn sk wr => ∃ k n : Nat, k ≤ 256 ∧ n = cnt k ∧ sn = .int .i64 (n : Int) ∧ sk = .int .i64 (k : Int) ∧ Below w.heap.size w wr) (fun _ sk _ => 256 - (intOf sk).toNat)
  case atStart => exact ⟨0, 0, by omega, rfl, rfl, rfl, Below.refl _ _⟩
  case round =>
    obtain ⟨k, n, hk, hn, rfl, rfl, hbel⟩ := hrel
    have HB : Hid (Below w.heap.size w wr) := hbel
    have HN : Hid (n = cnt k) := hn
    have hn73 : n ≤ 73 := by rw [hn]; unfold cnt; repeat (first | omega | split)
    clear hbel hn
    by_cases hlt : k < 256
    · have hlt' : (k : Int) < 256 := by omega
      have HSP : Hid (Calls Tryd.prog 8 #[.int .u8 (k : Int)] wr fun e w' => e = .returned (.string (sq (spl.getD k []))) ∧ w' = wr) := Spell_any k hlt wr (HS.out wr HB.out)
      by_cases ho : k < 7 ∨ 80 ≤ k
      · rw [spl_out k ho] at HSP
        have HSP' : Hid (Calls Tryd.prog 8 #[.int .u8 (k : Int)] wr fun e w' => e = .returned (.string ⟨#[]⟩) ∧ w' = wr) := HSP
        have HCN : Hid (n = cnt (k + 1)) := by unfold Hid; rw [HN.out]; unfold cnt; repeat (first | omega | split)
        clear HSP
        go_wp2_with (go_at_call 8; (with_reducible refine HSP'.out.mono ?_); rintro e w3 ⟨rfl, hw3⟩; subst hw3)
        go_roundw
        case rel => exact ⟨k + 1, n, by omega, HCN.out, rfl, by go_num, HB.out⟩
        case measure => simp [intOf]; omega
      · obtain ⟨hcut, h0⟩ := cut_spl k (by omega) (by omega)
        have hsz : (sq (spl.getD k [])).size ≤ 4294967280 := by
          rw [sq_size]
          have : ∀ k, k < 80 → (spl.getD k []).length ≤ 11 := by decide
          have := this k (by omega)
          omega
        have HKD : Hid (Calls Tryd.prog 9 #[.string (sq (spl.getD k []))] wr fun e w' => e = .returned (.tuple #[.int .u8 (k : Int), .bool true]) ∧ Below wr.heap.size wr w') := Kind_one k (by omega) (by omega) _ hsz hcut wr (HS.out wr HB.out) (HT.out wr HB.out) (HM.out wr HB.out)
        have HCN : Hid (n + 1 = cnt (k + 1)) := by unfold Hid; rw [HN.out]; unfold cnt; repeat (first | omega | split)
        have hem : (sq (spl.getD k [])).toList.isEmpty = false := by
          rw [ByteArray.toList_eq, sq_data]
          rw [sq_size] at h0
          cases hl : spl.getD k [] with
          | nil => rw [hl] at h0; simp at h0
          | cons => rfl
        obtain ⟨S, hSS⟩ : ∃ S, sq (spl.getD k []) = S := ⟨_, rfl⟩
        rw [hSS] at HSP HKD hem
        clear hSS hcut h0 hsz
        go_wp2_with (first
          | (go_at_call 8; (with_reducible refine HSP.out.mono ?_); rintro e w3 ⟨rfl, hw3⟩; subst hw3)
          | (go_at_call 9; (with_reducible refine HKD.out.mono ?_); rintro e w4 ⟨rfl, hb4⟩; have HB4 : Hid (Below w.heap.size w w4) := HB.out.trans (hb4.mono HB.out.size); clear hb4))
        go_roundw
        case rel => exact ⟨k + 1, n + 1, by omega, HCN.out, by go_num, by go_num, HB4.out⟩
        case measure => simp [intOf]; omega
    · have hke : k = 256 := by omega
      subst hke
      have hn7 : n = 73 := HN.out
      subst hn7
      go_wp2_with (first
        | (go_at_call 10; (with_reducible refine (Words_any _).mono ?_); rintro e w3 ⟨rfl, hb3⟩; have HB3 : Hid (Below w.heap.size w w3) := HB.out.trans (hb3.mono HB.out.size); clear hb3)
        | (go_at_call 11; (with_reducible refine (Marks_any w3).mono ?_); rintro e w4 ⟨rfl, hb4⟩; have HB4 : Hid (Below w.heap.size w w4) := HB3.out.trans (hb4.mono HB3.out.size); clear hb4)
        | (go_at_call 11; (with_reducible refine (Marks_any w4).mono ?_); rintro e w5 ⟨rfl, hb5⟩; have HB5 : Hid (Below w.heap.size w w5) := HB4.out.trans (hb5.mono HB4.out.size); clear hb5))
      go_ret
      exact ⟨rfl, HB5.out⟩
end Go.Proofs.YtlgddkkpngfmfaaDoor
