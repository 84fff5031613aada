import Derived.Test.YtnaipmgdipflgaaGreatDoorRl1
import Derived.Test.YtnaipmgdipflgaaGreatDoorLm2
import Derived.Test.YtnaipmgdipflgaaGreatDoorLm3
namespace Go.Proofs.YtnaipmgdipflgaaGreatDoor
open Go.ChangeShapes Go.WideShapes Go.ChangeAt Go.RowKit
set_option linter.unusedVariables false
set_option linter.unusedSimpArgs false

/-- a letter at a place (or a digit): how many bytes -/
def ltr (s : ByteArray) (k : Nat) (d : Bool) : Nat := if k < s.size ∧ (if d then isLD (rn s k) else isL (rn s k)) = true then wd s k else 0
theorem uLet_any (r : Nat) (hr : r < 1114112) (w : World) (hT : Lt w) : Calls Tryz.prog 97 #[.int .i32 (r : Int)] w fun e w' => e = .returned (.bool (uL r)) ∧ Below w.heap.size w w' := by
  obtain ⟨t1, t2, t3⟩ := hT.2 w (Below.refl _ _)
  exact Tryz.unicode_IsLetter_any Lib.letterT (r : Int) w (by omega) (by omega) t1 t2 Lib.letterT_ok
set_option maxRecDepth 1000000 in
set_option maxHeartbeats 8000000 in
theorem rletter_any (s : ByteArray) (k : Nat) (d : Bool) (hs : s.size ≤ 4294967280) (hk : k ≤ s.size) (w : World) (hT : Lt w) :
    Calls Tryz.prog 63 #[.string s, .int .i64 (k : Int), .bool d] w fun e w' => e = .returned (.int .i64 (ltr s k d : Nat)) ∧ Below w.heap.size w w' := by
  by_cases h0 : s.size ≤ k
  · have E : ltr s k d = 0 := by unfold ltr; rw [if_neg (by omega)]
    rw [E]
    have h0' : (k : Int) ≥ (s.size : Int) := by omega
    go_enter Tryz.func63, Tryz.ntmps63
    go_wp2
    go_ret
    exact ⟨rfl, Below.refl _ _⟩
  have hlt : k < s.size := by omega
  have h0' : ¬ (k : Int) ≥ (s.size : Int) := by omega
  have h0'' : (k : Int) < (s.size : Int) := by omega
  have HD : Hid (Calls Tryz.prog 52 #[.string (s.extract k s.size)] w fun e w' => e = .returned (.tuple #[.int .i32 (rn s k : Nat), .int .i64 (wd s k : Nat)]) ∧ Below w.heap.size w w') := decode_call s k w hT.1
  have hrn : rn s k < 1114112 := rn_lt s k
  obtain ⟨f1, f2, -, -⟩ := dec_facts s k hlt
  have hE : ltr s k d = if (if d then isLD (rn s k) else isL (rn s k)) = true then wd s k else 0 := by unfold ltr; simp only [hlt, true_and]
  rw [hE]
  obtain ⟨R, hR⟩ : ∃ R, rn s k = R := ⟨_, rfl⟩
  obtain ⟨D, hD⟩ : ∃ D, wd s k = D := ⟨_, rfl⟩
  rw [hR, hD] at HD ⊢
  rw [hR] at hrn
  rw [hD] at f1 f2
  have HU : Hid (∀ v, Below w.heap.size w v → Calls Tryz.prog 97 #[.int .i32 (R : Int)] v fun e w' => e = .returned (.bool (uL R)) ∧ Below v.heap.size v w') := fun v hv => uLet_any R hrn v (hT.below hv)
  have HG : Hid (∀ v, Below w.heap.size w v → Calls Tryz.prog 98 #[.int .i32 (R : Int)] v fun e w' => e = .returned (.bool (uD R)) ∧ Below v.heap.size v w') := fun v hv => isDigit_any R hrn v (hT.below hv)
  clear hE hR hD hT
  by_cases hbad : R = 65533 ∧ D < 2
  · obtain ⟨rfl, hd2⟩ := hbad
    have hd2' : (D : Int) < 2 := by omega
    have E : (if (if d then isLD 65533 else isL 65533) = true then D else 0) = 0 := by rw [bad_none.1, bad_none.2]; cases d <;> rfl
    rw [E]
    go_enter Tryz.func63, Tryz.ntmps63
    go_wp2_with (go_at_call 52; (with_reducible refine HD.out.mono ?_); rintro e w3 ⟨rfl, hb3⟩; have HB3 : Hid (Below w.heap.size w w3) := hb3; clear hb3)
    go_ret
    exact ⟨rfl, HB3.out⟩
  have HC : Hid (((R : Int) == 65533) = false ∨ (((R : Int) == 65533) = true ∧ ¬ (D : Int) < 2)) := by
    unfold Hid
    by_cases h : R = 65533
    · exact .inr ⟨by simp; omega, by omega⟩
    · exact .inl (by simp; omega)
  have hl : isL R = (R == 95 || uL R) := rfl
  have hld : isLD R = (isL R || uD R) := rfl
  rw [hld, hl]
  obtain ⟨x, hx⟩ : ∃ x, uL R = x := ⟨_, rfl⟩
  obtain ⟨y, hy⟩ : ∃ y, uD R = y := ⟨_, rfl⟩
  rw [hx] at HU ⊢
  rw [hy] at HG ⊢
  clear hx hy hl hld hbad
  by_cases h95 : R = 95
  · have q : ((R : Int) == 95) = true := by simp; omega
    have E : (if (if d then (R == 95 || x) || y else R == 95 || x) = true then D else 0) = D := by subst h95; cases d <;> simp
    rw [E]
    clear E h95
    rcases HC.out with hc | ⟨hc, hc2⟩
    all_goals
      clear HC
      go_enter Tryz.func63, Tryz.ntmps63
      go_wp2_with (go_at_call 52; (with_reducible refine HD.out.mono ?_); rintro e w3 ⟨rfl, hb3⟩; have HB3 : Hid (Below w.heap.size w w3) := hb3; clear hb3)
      go_ret
      exact ⟨rfl, HB3.out⟩
  · have q : ((R : Int) == 95) = false := by simp; omega
    have E : (if (if d then (R == 95 || x) || y else R == 95 || x) = true then D else 0) = if (x || (d && y)) = true then D else 0 := by
      have : (R == 95) = false := by simp [h95]
      rw [this]; cases d <;> simp
    rw [E]
    clear E h95
    cases x with
    | true =>
      rw [Bool.true_or, if_pos rfl]
      rcases HC.out with hc | ⟨hc, hc2⟩
      all_goals
        clear HC
        go_enter Tryz.func63, Tryz.ntmps63
        go_wp2_with (first
          | (go_at_call 52; (with_reducible refine HD.out.mono ?_); rintro e w3 ⟨rfl, hb3⟩; have HB3 : Hid (Below w.heap.size w w3) := hb3; clear hb3)
          | (go_at_call 97; (with_reducible refine (HU.out _ HB3.out).mono ?_); rintro e w4 ⟨rfl, hb4⟩; have HB4 : Hid (Below w.heap.size w w4) := HB3.out.trans (hb4.mono HB3.out.size); clear hb4))
        go_ret
        exact ⟨rfl, HB4.out⟩
    | false =>
      rw [Bool.false_or]
      cases d with
      | false =>
        rw [Bool.false_and, if_neg (by simp)]
        rcases HC.out with hc | ⟨hc, hc2⟩
        all_goals
          clear HC
          go_enter Tryz.func63, Tryz.ntmps63
          go_wp2_with (first
            | (go_at_call 52; (with_reducible refine HD.out.mono ?_); rintro e w3 ⟨rfl, hb3⟩; have HB3 : Hid (Below w.heap.size w w3) := hb3; clear hb3)
            | (go_at_call 97; (with_reducible refine (HU.out _ HB3.out).mono ?_); rintro e w4 ⟨rfl, hb4⟩; have HB4 : Hid (Below w.heap.size w w4) := HB3.out.trans (hb4.mono HB3.out.size); clear hb4))
          go_ret
          exact ⟨rfl, HB4.out⟩
      | true =>
        rw [Bool.true_and]
        cases y with
        | true =>
          rw [if_pos rfl]
          rcases HC.out with hc | ⟨hc, hc2⟩
          all_goals
            clear HC
            go_enter Tryz.func63, Tryz.ntmps63
            go_wp2_with (first
              | (go_at_call 52; (with_reducible refine HD.out.mono ?_); rintro e w3 ⟨rfl, hb3⟩; have HB3 : Hid (Below w.heap.size w w3) := hb3; clear hb3)
              | (go_at_call 97; (with_reducible refine (HU.out _ HB3.out).mono ?_); rintro e w4 ⟨rfl, hb4⟩; have HB4 : Hid (Below w.heap.size w w4) := HB3.out.trans (hb4.mono HB3.out.size); clear hb4)
              | (go_at_call 98; (with_reducible refine (HG.out _ HB4.out).mono ?_); rintro e w5 ⟨rfl, hb5⟩; have HB5 : Hid (Below w.heap.size w w5) := HB4.out.trans (hb5.mono HB4.out.size); clear hb5))
            go_ret
            exact ⟨rfl, HB5.out⟩
        | false =>
          rw [if_neg (by simp)]
          rcases HC.out with hc | ⟨hc, hc2⟩
          all_goals
            clear HC
            go_enter Tryz.func63, Tryz.ntmps63
            go_wp2_with (first
              | (go_at_call 52; (with_reducible refine HD.out.mono ?_); rintro e w3 ⟨rfl, hb3⟩; have HB3 : Hid (Below w.heap.size w w3) := hb3; clear hb3)
              | (go_at_call 97; (with_reducible refine (HU.out _ HB3.out).mono ?_); rintro e w4 ⟨rfl, hb4⟩; have HB4 : Hid (Below w.heap.size w w4) := HB3.out.trans (hb4.mono HB3.out.size); clear hb4)
              | (go_at_call 98; (with_reducible refine (HG.out _ HB4.out).mono ?_); rintro e w5 ⟨rfl, hb5⟩; have HB5 : Hid (Below w.heap.size w w5) := HB4.out.trans (hb5.mono HB4.out.size); clear hb5))
            go_ret
            exact ⟨rfl, HB5.out⟩
end Go.Proofs.YtnaipmgdipflgaaGreatDoor

namespace Go.Proofs.YtnaipmgdipflgaaGreatDoor
open Go.ChangeShapes Go.WideShapes Go.ChangeAt Go.RowKit
set_option linter.unusedVariables false
set_option linter.unusedSimpArgs false

/-- a piece, as the reference tells it -/
def pcR : Pce → Value
  | .ok k t => .tuple #[.int .i64 (k : Int), .int .i64 (t : Int), .int .i64 0, .int .i64 0]
  | .no y z => .tuple #[.int .i64 0, .int .i64 0, .int .i64 (y : Int), .int .i64 (z : Int)]
def strV (l : List (List UInt8)) : List Value := l.map fun x => .string ⟨x.toArray⟩
set_option maxRecDepth 1000000 in
set_option maxHeartbeats 4000000 in
theorem words_any (w : World) : Calls Tryz.prog 99 #[] w fun e w' => e = .returned (.slice (some ⟨w.heap.size, 0, none⟩) 25 25) ∧ w' = w.alloc (.cells (strV wds).toArray 9) := by
  go_enter Tryz.func99, Tryz.ntmps99
  go_wp2
  go_ret
  exact ⟨rfl, rfl⟩
set_option maxRecDepth 1000000 in
set_option maxHeartbeats 4000000 in
theorem marks_any (w : World) : Calls Tryz.prog 101 #[] w fun e w' => e = .returned (.slice (some ⟨w.heap.size, 0, none⟩) 48 48) ∧ w' = w.alloc (.cells (strV mks).toArray 9) := by
  go_enter Tryz.func101, Tryz.ntmps101
  go_wp2
  go_ret
  exact ⟨rfl, rfl⟩
theorem strV_get (l : List (List UInt8)) (i : Nat) (h : i < l.length) (w : World) : (w.alloc (.cells (strV l).toArray 9)).cell? ⟨w.heap.size, i, none⟩ = some (.string ⟨(l.getD i []).toArray⟩) := by
  have := cells_new w (strV l) 9 i (.string ⟨(l.getD i []).toArray⟩) (by unfold strV; rw [List.getElem?_map, List.getD_eq_getElem?_getD, List.getElem?_eq_getElem h]; rfl)
  rw [addr_add] at this
  simpa using this
theorem str_lit (T : ByteArray) (l : List UInt8) : (T.toList == (⟨l.toArray⟩ : ByteArray).toList) = decide (l = T.data.toList) := by
  rw [ByteArray.toList_eq, ByteArray.toList_eq]
  have e : (⟨l.toArray⟩ : ByteArray).data.toList = l := by show l.toArray.toList = l; simp
  rw [e]
  by_cases h : l = T.data.toList
  · rw [decide_eq_true h, ← h]; simp
  · rw [decide_eq_false h, beq_eq_false_iff_ne]; exact fun e => h e.symm
theorem ltr_in {s : ByteArray} {k : Nat} (h : k < s.size) (hl : isLD (rn s k) = true) : ltr s k true = wd s k := by unfold ltr; rw [if_pos ⟨h, by simpa using hl⟩]
theorem ltr_out {s : ByteArray} {k : Nat} (h : ¬ (k < s.size ∧ isLD (rn s k) = true)) : ltr s k true = 0 := by unfold ltr; rw [if_neg (by simpa using h)]

set_option maxRecDepth 1000000 in
set_option maxHeartbeats 8000000 in
theorem rname_any (s : ByteArray) (p : Nat) (hs : s.size ≤ 4294967280) (hp : p < s.size) (w : World) (hT : Lt w) :
    Calls Tryz.prog 64 #[.string s, .int .i64 (p : Int)] w fun e w' => e = .returned (pcR (nmP s p)) ∧ Below w.heap.size w w' := by
  have HT : Hid (∀ v, Below w.heap.size w v → Lt v) := fun v hv => hT.below hv
  obtain ⟨hl1, hl2⟩ := rnE_le s (s.size - p) p (Nat.le_refl _) (by omega)
  have hNP : nmP s p = if 200 < rnE s p - p then .no 24 p else .ok (kwd (s.extract p (rnE s p)).data.toList) (rnE s p) := rfl
  rw [hNP]
  obtain ⟨E, hE⟩ : ∃ E, rnE s p = E := ⟨_, rfl⟩
  have HE : Hid (rnE s p = E) := hE
  rw [hE] at hl1 hl2 ⊢
  obtain ⟨V, hV⟩ : ∃ V, pcR (if 200 < E - p then .no 24 p else .ok (kwd (s.extract p E).data.toList) E) = V := ⟨_, rfl⟩
  have HV : Hid (pcR (if 200 < E - p then .no 24 p else .ok (kwd (s.extract p E).data.toList) E) = V) := hV
  rw [hV]
  clear hNP hE hT hV
  go_enter Tryz.func64, Tryz.ntmps64
  go_wp2
  go_loopw [8] (fun st wr => ∃ k : Nat, p ≤ k ∧ k ≤ s.size ∧ st = .int .i64 (k : Int) ∧ rnE s k = E ∧ Below w.heap.size w wr) (fun st _ => s.size - (intOf st).toNat)
  case atStart => exact ⟨p, Nat.le_refl _, by omega, rfl, HE.out, Below.refl _ _⟩
  case round =>
    obtain ⟨k, hpk, hks, rfl, hke, hbel⟩ := hrel
    have HB : Hid (Below w.heap.size w wr) := hbel
    have HLT : Hid (∀ v, Below w.heap.size w v → Calls Tryz.prog 63 #[.string s, .int .i64 (k : Int), .bool true] v fun e w' => e = .returned (.int .i64 (ltr s k true : Nat)) ∧ Below v.heap.size v w') := fun v hv => rletter_any s k true hs hks v (HT.out v hv)
    clear hbel
    by_cases hl : k < s.size ∧ isLD (rn s k) = true
    · obtain ⟨f1, f2, -, -⟩ := dec_facts s k hl.1
      have hst := rnE_in hl.1 hl.2
      rw [ltr_in hl.1 hl.2] at HLT
      have HK : Hid (rnE s (k + wd s k) = E) := by unfold Hid; rw [← hst]; exact hke
      obtain ⟨D, hD⟩ : ∃ D, wd s k = D := ⟨_, rfl⟩
      rw [hD] at HLT f1 f2 HK
      have hD0 : (D : Int) > 0 := by omega
      clear hst hD hl hke
      go_wp2_with (first
        | (go_at_call 63; (with_reducible refine (HLT.out wr HB.out).mono ?_); rintro e w3 ⟨rfl, hb3⟩; have HB3 : Hid (Below w.heap.size w w3) := HB.out.trans (hb3.mono HB.out.size); clear hb3)
        | (go_at_call 63; (with_reducible refine (HLT.out w3 HB3.out).mono ?_); rintro e w4 ⟨rfl, hb4⟩; have HB4 : Hid (Below w.heap.size w w4) := HB3.out.trans (hb4.mono HB3.out.size); clear hb4))
      go_roundw
      case rel => exact ⟨k + D, by omega, by omega, by go_num, HK.out, HB4.out⟩
      case measure => simp [intOf]; omega
    · have hkE : k = E := by rw [← hke, rnE_out hl]
      subst hkE
      rw [ltr_out hl] at HLT
      clear hl hke
      have h00 : ¬ (0 : Int) > 0 := by decide
      by_cases hlong : 200 < k - p
      · have hl' : (k : Int) - (p : Int) > 200 := by omega
        go_wp2_with (go_at_call 63; (with_reducible refine (HLT.out wr HB.out).mono ?_); rintro e w3 ⟨rfl, hb3⟩; have HB3 : Hid (Below w.heap.size w w3) := HB.out.trans (hb3.mono HB.out.size); clear hb3)
        refine bodyPost_ret (v := .tuple #[.int .i64 0, .int .i64 0, .int .i64 24, .int .i64 (p : Int)]) (by simp [results, Tryz.results64, go_sem]) rfl ⟨by rw [← HV.out, if_pos hlong]; rfl, HB3.out⟩
      · have hl' : ¬ (k : Int) - (p : Int) > 200 := by omega
        have hpk' : (p : Int) ≤ (k : Int) := by omega
        have hks' : (k : Int) ≤ (s.size : Int) := by omega
        have hw25 : wds.length = 25 := by decide
        obtain ⟨T, hTd⟩ : ∃ T, s.extract p k = T := ⟨_, rfl⟩
        have HTD : Hid (s.extract p k = T) := hTd
        clear hTd
        go_wp2_with (first
          | (go_at_call 63; (with_reducible refine (HLT.out wr HB.out).mono ?_); rintro e w3 ⟨rfl, hb3⟩; have HB3 : Hid (Below w.heap.size w w3) := HB.out.trans (hb3.mono HB.out.size); clear hb3)
          | (go_at_call 99; (with_reducible refine (words_any _).mono ?_); rintro e w4 ⟨rfl, hw4⟩; have HC4 : Hid (∀ i, i < 25 → w4.cell? ⟨w3.heap.size, i, none⟩ = some (.string ⟨(wds.getD i []).toArray⟩)) := (by intro i hi; rw [hw4]; exact strV_get wds i (by omega) w3); have HB4 : Hid (Below w.heap.size w w4) := (by unfold Hid; rw [hw4]; exact HB3.out.alloc HB3.out.size _); have hz4 : w3.heap.size < w4.heap.size := (by rw [hw4]; simp); clear hw4))
        generalize w3.heap.size = g at *
        go_loopw [28] (fun si wi => ∃ i : Nat, i ≤ 25 ∧ si = .int .i64 (i : Int) ∧ (∀ j, j < i → wds.getD j [] ≠ T.data.toList) ∧ wi = w4) (fun si _ => 25 - (intOf si).toNat)
        case atStart => exact ⟨0, by omega, rfl, fun j hj => by omega, by first | rfl | trivial⟩
        case round =>
          obtain ⟨i, hi25, rfl, hno, rfl⟩ := hrel
          have HNO : Hid (∀ j, j < i → wds.getD j [] ≠ T.data.toList) := hno
          clear hno
          by_cases hlt : i < 25
          · have hlt' : (i : Int) < 25 := by omega
            have c4 := HC4.out i hlt
            have hq := str_lit T (wds.getD i [])
            obtain ⟨W, hW⟩ : ∃ W : ByteArray, ⟨(wds.getD i []).toArray⟩ = W := ⟨_, rfl⟩
            rw [hW] at c4 hq
            by_cases hit : wds.getD i [] = T.data.toList
            · rw [decide_eq_true hit] at hq
              have HKW : Hid (kwd T.data.toList = 7 + i) := kwd_hit hlt hit
              clear hit hW
              rw [← HTD.out] at hq
              go_wp2
              refine bodyPost_ret (v := .tuple #[.int .i64 (7 + (i : Int)), .int .i64 (k : Int), .int .i64 0, .int .i64 0]) (by simp [results, Tryz.results64, go_sem]) rfl ⟨by rw [← HV.out, if_neg hlong, HTD.out, HKW.out]; simp [pcR], HB4.out⟩
            · rw [decide_eq_false hit] at hq
              have HN2 : Hid (∀ j, j < i + 1 → wds.getD j [] ≠ T.data.toList) := fun j hj => by
                by_cases h : j = i
                · subst h; exact hit
                · exact HNO.out j (by omega)
              clear hit hW
              rw [← HTD.out] at hq
              go_wp2
              go_roundw
              case rel => exact ⟨i + 1, by omega, by go_num, HN2.out, by first | rfl | trivial⟩
              case measure => simp [intOf]; omega
          · have hge : ¬ (i : Int) < 25 := by omega
            have HKW : Hid (kwd T.data.toList = 2) := kwd_miss (fun j hj => HNO.out j (by omega))
            go_wp2
            refine bodyPost_ret (v := .tuple #[.int .i64 2, .int .i64 (k : Int), .int .i64 0, .int .i64 0]) (by simp [results, Tryz.results64, go_sem]) rfl ⟨by rw [← HV.out, if_neg hlong, HTD.out, HKW.out]; simp [pcR], HB4.out⟩
end Go.Proofs.YtnaipmgdipflgaaGreatDoor
