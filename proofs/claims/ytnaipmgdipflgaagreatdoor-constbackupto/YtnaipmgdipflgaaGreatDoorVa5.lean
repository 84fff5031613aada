import Derived.Test.YtnaipmgdipflgaaGreatDoorVa4
namespace Go.Proofs.YtnaipmgdipflgaaGreatDoor
open Go.ChangeShapes Go.WideShapes Go.ChangeAt Go.RowKit Go.Maps Go.WideMaps
set_option linter.unusedVariables false
set_option linter.unusedSimpArgs false

/-- a place within quotes that end at the text's end -/
def Qin (s : ByteArray) (k : Nat) : Prop := ∃ c o c' o', quo s 34 k c o = some (s.size - 1, c', o')
theorem Qin.on {s : ByteArray} {k : Nat} (h : Qin s k) (hk : k + 1 < s.size) : ∃ it, itm s k 34 = some it ∧ ita s k 34 = some it ∧ 0 < it.n ∧ k + it.n + 1 ≤ s.size ∧ it.v ≤ 1114111 ∧ (it.e = true → it.v < 256) ∧ tvs s k = itB it ++ tvs s (k + it.n) ∧ Qin s (k + it.n) := by
  obtain ⟨c, o, c', o', hq⟩ := h
  have hks : k < s.size := by omega
  by_cases h10 : bt s k = 10
  · rw [quo_end (fun e => e.2 h10)] at hq; cases hq
  · by_cases h34 : bt s k = 34
    · rw [quo_quote hks h10 h34] at hq
      have := Option.some.inj hq
      simp only [Prod.mk.injEq] at this
      omega
    · cases hi : itm s k 34 with
      | none => rw [quo_no ⟨hks, h10⟩ h34 hi] at hq; cases hq
      | some it =>
        rw [quo_on ⟨hks, h10⟩ h34 hi] at hq
        have hle := quo_le s 34 (s.size - (k + it.n)) (k + it.n) _ _ _ _ _ (Nat.le_refl _) hq
        have ha : ita s k 34 = some it := by unfold ita; rw [if_neg (by omega)]; exact hi
        obtain ⟨n1, n2, n3⟩ := itm_n hks hi
        exact ⟨it, rfl, ha, n1, by omega, n3, fun he => ita_e ha he, tvs_some ha, _, _, _, _, hq⟩
theorem Qin.end' {s : ByteArray} {k : Nat} (h : Qin s k) (hk : ¬ k + 1 < s.size) : tvs s k = [] := by
  obtain ⟨c, o, c', o', hq⟩ := h
  have hle := quo_le s 34 (s.size - k) k _ _ _ _ _ (Nat.le_refl _) hq
  have hkk : k = s.size - 1 := by omega
  have hks : k < s.size := by omega
  by_cases h10 : bt s k = 10
  · rw [quo_end (fun e => e.2 h10)] at hq; cases hq
  · by_cases h34 : bt s k = 34
    · refine tvs_none ?_
      unfold ita
      rw [if_pos (by omega)]
    · cases hi : itm s k 34 with
      | none => rw [quo_no ⟨hks, h10⟩ h34 hi] at hq; cases hq
      | some it =>
        rw [quo_on ⟨hks, h10⟩ h34 hi] at hq
        have hle2 := quo_le s 34 (s.size - (k + it.n)) (k + it.n) _ _ _ _ _ (Nat.le_refl _) hq
        have := (itm_n hks hi).1
        omega
set_option maxRecDepth 1000000 in
set_option maxHeartbeats 8000000 in
theorem rTextOf_raw (s : ByteArray) (hs : s.size ≤ 4294967280) (hk : kOf s = some 5) (h96 : bt s 0 = 96) (w : World) (hT : Lt w) :
    Calls Tryz.prog 22 #[.string s] w fun e w' => e = .returned (.tuple #[.string ⟨(rwB s 1).toArray⟩, .int .i64 0]) ∧ Below w.heap.size w w' := by
  obtain ⟨i0, hi, hz0, hz1, hz2⟩ := info_parts infoU8b
  obtain ⟨h0, -, -, -, -, -⟩ := kOf_some hk
  have h0' : (0 : Int) < (s.size : Int) := by omega
  have hc0 : (s[0]'h0).toNat = 96 := by rw [← bt_in h0]; exact h96
  have HK0 := rKind_no s hs w hT
  rw [(kNo_is s 5 (by omega)).2 hk] at HK0
  have HK : Hid (Calls Tryz.prog 17 #[.string s] w fun e w' => (∃ z, e = .returned (.tuple #[.int .i64 5, .bool z])) ∧ Below w.heap.size w w') := HK0
  obtain ⟨Q, hQ⟩ : ∃ Q, rwB s 1 = Q := ⟨_, rfl⟩
  have HQ : Hid (rwB s 1 = Q) := hQ
  rw [hQ]
  clear hQ HK0 hk hT h96
  go_enter Tryz.func22, Tryz.ntmps22
  go_wp2_with (go_at_call 17; (with_reducible refine HK.out.mono ?_); rintro e w3 ⟨⟨z, rfl⟩, hb3⟩; have HB3 : Hid (Below w.heap.size w w3) := hb3; clear hb3)
  go_loopw [6, 7] (fun so si wr => ∃ (k : Nat) (acc : List UInt8), 1 ≤ k ∧ k ≤ s.size + 1 ∧ si = .int .i64 (k : Int) ∧ acc ++ rwB s k = Q ∧ acc.length ≤ k ∧ wr.ownsRow w.heap.size 5 1 so acc.length (bc acc) ∧ Below w.heap.size w wr) (fun _ si _ => s.size + 1 - (intOf si).toNat)
  case atStart => exact ⟨1, [], Nat.le_refl _, by omega, rfl, HQ.out, by simp, World.ownsRow_nil _ _ _ _, HB3.out⟩
  case round =>
    obtain ⟨k, acc, hk1, hks, rfl, hacc, hal, hown, hbel⟩ := hrel
    have HA : Hid (acc ++ rwB s k = Q) := hacc
    have HO : Hid (wr.ownsRow w.heap.size 5 1 u6 acc.length (bc acc)) := hown
    have HB : Hid (Below w.heap.size w wr) := hbel
    clear hacc hown hbel
    by_cases hlt : k + 1 < s.size
    · have hlt' : (k : Int) < (s.size : Int) - 1 := by omega
      have hkI : (k : Int) < (s.size : Int) := by omega
      have hkl : k < s.size := by omega
      have hbt := bt_in hkl
      obtain ⟨c, hc⟩ : ∃ c, (s[k]'hkl).toNat = c := ⟨_, rfl⟩
      rw [hc] at hbt
      by_cases h13 : c = 13
      · have HN : Hid (acc ++ rwB s (k + 1) = Q) := by unfold Hid; rw [← HA.out, rwB_cr hlt (by rw [hbt]; exact h13)]
        subst h13
        clear hbt
        go_wp2
        go_roundw
        case rel => exact ⟨k + 1, acc, by omega, by omega, by go_num, HN.out, by omega, HO.out, HB.out⟩
        case measure => simp [intOf]; omega
      · have h13' : ((c : Int) != 13) = true := by rw [bne_iff_ne]; omega
        obtain ⟨BB, hBB⟩ : ∃ BB : List UInt8, [s[k]'hkl] = BB := ⟨_, rfl⟩
        have HN : Hid ((acc ++ BB) ++ rwB s (k + 1) = Q) := by unfold Hid; rw [← HA.out, rwB_on hlt (by rw [hbt]; exact h13), ← hBB]; simp
        have HBC : Hid (bc BB = [.int .u8 (c : Int)]) := by unfold Hid; rw [← hBB, ← hc]; simp [bc]
        have HBL : Hid (BB.length = 1) := by unfold Hid; rw [← hBB]; rfl
        clear hbt hBB
        go_wp2_with (at_builtin; (refine wpList_append_at _ rfl (.tmp 31) (.tmp 35) 79 rfl w.heap.size 5 i0 (.int .u8 0) 1 1 Tryz.underlying79 hi hz0 hz1 hz2 rfl (by decide) _ acc.length (bc acc) rfl (HO.out.alloc _) (some ⟨wr.heap.size, 0, none⟩) 1 1 [.int .u8 (c : Int)] rfl rfl (fun h => by cases h) (fun ad had => by cases had; exact cells_new _ _ _) (fun u hu => by simp at hu; subst hu; rfl) (by unfold maxLen; omega) (by omega) (by have := HB.out.size; simp; omega) ?_); intro v5 w5 ho5 hg5' _; have HO5 : Hid (w5.ownsRow w.heap.size 5 1 v5 (acc ++ BB).length (bc (acc ++ BB))) := (by unfold Hid; rw [bc_append, List.length_append, HBC.out, HBL.out]; exact ho5); have HB5 : Hid (Below w.heap.size w w5) := (HB.out.alloc HB.out.size _).grown hg5' (by have := HB.out.size; simp; omega) (fun j hj => (HO.out.lt j hj).1); clear ho5 hg5')
        go_roundw
        case rel => exact ⟨k + 1, acc ++ BB, by omega, by omega, by go_num, HN.out, by rw [List.length_append, HBL.out]; omega, HO5.out, HB5.out⟩
        case measure => simp [intOf]; omega
    · have hge : ¬ (k : Int) < (s.size : Int) - 1 := by omega
      have HN : Hid (acc = Q) := by unfold Hid; rw [← HA.out, rwB_end hlt]; simp
      have hcv := own_string_any HO.out
      go_wp2
      go_ret2
      exact ⟨by rw [HN.out]; rfl, HB.out⟩

set_option maxRecDepth 1000000 in
set_option maxHeartbeats 8000000 in
theorem rTextOf_quo (s : ByteArray) (hs : s.size ≤ 4294967280) (hk : kOf s = some 5) (h96 : bt s 0 ≠ 96) (w : World) (hT : Lt w) :
    Calls Tryz.prog 22 #[.string s] w fun e w' => e = .returned (.tuple #[.string ⟨(tvs s 1).toArray⟩, .int .i64 0]) ∧ Below w.heap.size w w' := by
  obtain ⟨i0, hi, hz0, hz1, hz2⟩ := info_parts infoU8b
  obtain ⟨h0, -, -, -, -, -⟩ := kOf_some hk
  have h0' : (0 : Int) < (s.size : Int) := by omega
  have HQI : Hid (Qin s 1) := by
    rcases kOf_quote hk (.inr rfl) with e | ⟨-, -, h34, h2, c, hq, -⟩
    · exact absurd e.2 h96
    · rw [h34 rfl] at hq
      exact ⟨_, _, _, _, hq⟩
  obtain ⟨c0, hc0⟩ : ∃ c0, (s[0]'h0).toNat = c0 := ⟨_, rfl⟩
  have hc96 : ((c0 : Int) == 96) = false := by
    rw [beq_eq_false_iff_ne]
    intro e
    exact h96 (by rw [bt_in h0, hc0]; omega)
  have HK0 := rKind_no s hs w hT
  rw [(kNo_is s 5 (by omega)).2 hk] at HK0
  have HK : Hid (Calls Tryz.prog 17 #[.string s] w fun e w' => (∃ z, e = .returned (.tuple #[.int .i64 5, .bool z])) ∧ Below w.heap.size w w') := HK0
  have HT : Hid (∀ v, Below w.heap.size w v → U8 v) := fun v hv => (hT.below hv).1
  obtain ⟨Q, hQ⟩ : ∃ Q, tvs s 1 = Q := ⟨_, rfl⟩
  have HQ : Hid (tvs s 1 = Q) := hQ
  rw [hQ]
  clear hQ HK0 hk hT h96
  go_enter Tryz.func22, Tryz.ntmps22
  go_wp2_with (go_at_call 17; (with_reducible refine HK.out.mono ?_); rintro e w3 ⟨⟨z, rfl⟩, hb3⟩; have HB3 : Hid (Below w.heap.size w w3) := hb3; clear hb3)
  go_loopw [6, 7] (fun so si wr => ∃ (k : Nat) (acc : List UInt8), 1 ≤ k ∧ k ≤ s.size ∧ si = .int .i64 (k : Int) ∧ Qin s k ∧ acc ++ tvs s k = Q ∧ acc.length ≤ 4 * k ∧ wr.ownsRow w.heap.size 5 1 so acc.length (bc acc) ∧ Below w.heap.size w wr) (fun _ si _ => s.size + 1 - (intOf si).toNat)
  case atStart => exact ⟨1, [], Nat.le_refl _, by omega, rfl, HQI.out, HQ.out, by simp, World.ownsRow_nil _ _ _ _, HB3.out⟩
  case round =>
    obtain ⟨k, acc, hk1, hks, rfl, hqin, hacc, hal, hown, hbel⟩ := hrel
    have HA : Hid (acc ++ tvs s k = Q) := hacc
    have HO : Hid (wr.ownsRow w.heap.size 5 1 u6 acc.length (bc acc)) := hown
    have HB : Hid (Below w.heap.size w wr) := hbel
    clear hacc hown hbel
    by_cases hlt : k + 1 < s.size
    · have hlt' : (k : Int) < (s.size : Int) - 1 := by omega
      obtain ⟨it, i1, i2, i3, i4, i5, i6, i7, i8⟩ := hqin.on hlt
      have HIT0 := rItem_any s k 34 hs (by omega) (.inl rfl) wr (HT.out wr HB.out)
      rw [i1] at HIT0
      obtain ⟨n0, v0, e0, b0⟩ := it
      simp only at i3 i4 i5 i6 i7 i8
      have HIT : Hid (Calls Tryz.prog 43 #[.string s, .int .i64 (k : Int), .int .u8 34] wr fun e w' => e = .returned (.tuple #[.int .i64 (n0 : Int), .int .i64 (v0 : Int), .bool e0, .bool b0]) ∧ Below wr.heap.size wr w') := HIT0
      have HQN : Hid (Qin s (k + n0)) := i8
      clear HIT0 i1 i2 i8 hqin
      cases e0 with
      | true =>
        have hv8 : v0 < 256 := i6 rfl
        have HNX : Hid ((acc ++ [v0.toUInt8]) ++ tvs s (k + n0) = Q) := by unfold Hid; rw [← HA.out, i7, List.append_assoc]; rfl
        obtain ⟨BB, hBB⟩ : ∃ BB : List UInt8, [v0.toUInt8] = BB := ⟨_, rfl⟩
        have HBC : Hid (bc BB = [.int .u8 (v0 : Int)]) := by unfold Hid; rw [← hBB]; simp [bc]; omega
        have HBL : Hid (BB.length = 1) := by unfold Hid; rw [← hBB]; rfl
        rw [hBB] at HNX
        clear hBB i6 i7 HA
        go_wp2_with (first
          | (go_at_call 43; (with_reducible refine HIT.out.mono ?_); rintro e w4 ⟨rfl, hb4⟩; have HB4 : Hid (Below w.heap.size w w4) := HB.out.trans (hb4.mono HB.out.size); have HO4 : Hid (w4.ownsRow w.heap.size 5 1 u6 acc.length (bc acc)) := ownsRow_below HO.out hb4 (Nat.le_refl _); clear hb4)
          | (at_builtin; (refine wpList_append_at _ rfl (.tmp 48) (.tmp 51) 79 rfl w.heap.size 5 i0 (.int .u8 0) 1 1 Tryz.underlying79 hi hz0 hz1 hz2 rfl (by decide) _ acc.length (bc acc) rfl (HO4.out.alloc _) (some ⟨w4.heap.size, 0, none⟩) 1 1 [.int .u8 (v0 : Int)] rfl rfl (fun h => by cases h) (fun ad had => by cases had; exact cells_new _ _ _) (fun u hu => by simp at hu; subst hu; rfl) (by unfold maxLen; omega) (by omega) (by have := HB4.out.size; simp; omega) ?_); intro v5 w5 ho5 hg5' _; have HO5 : Hid (w5.ownsRow w.heap.size 5 1 v5 (acc ++ BB).length (bc (acc ++ BB))) := (by unfold Hid; rw [bc_append, List.length_append, HBC.out, HBL.out]; exact ho5); have HB5 : Hid (Below w.heap.size w w5) := (HB4.out.alloc HB4.out.size _).grown hg5' (by have := HB4.out.size; simp; omega) (fun j hj => (HO4.out.lt j hj).1); clear ho5 hg5'))
        go_roundw
        case rel => exact ⟨k + n0, acc ++ BB, by omega, by omega, by go_num, HQN.out, HNX.out, by rw [List.length_append, HBL.out]; omega, HO5.out, HB5.out⟩
        case measure => simp [intOf]; omega
      | false =>
        have HNX : Hid ((acc ++ Lib.encodeRune (v0 : Int)) ++ tvs s (k + n0) = Q) := by unfold Hid; rw [← HA.out, i7, List.append_assoc]; rfl
        have HBL : Hid ((Lib.encodeRune (v0 : Int)).length ≤ 4) := rune_len _
        have HAR : Hid (∀ wq, wq.ownsRow w.heap.size 5 1 u6 acc.length (bc acc) → w.heap.size ≤ wq.heap.size → Calls Tryz.prog 44 #[u6, .int .i32 (v0 : Int)] wq fun e w' => ∃ v', e = .returned v' ∧ w'.ownsRow w.heap.size 5 1 v' (acc.length + (Lib.runeCells (v0 : Int)).length) (bc acc ++ Lib.runeCells (v0 : Int)) ∧ ∃ o, (wq.alloc o).grownBy w' u6.ownBlock) := fun wq ho hz => Tryz.utf8_AppendRune_plain w.heap.size u6 acc.length (bc acc) (v0 : Int) (by omega) (by omega) wq ho (by omega) hz
        obtain ⟨BB, hBB⟩ : ∃ BB, Lib.encodeRune (v0 : Int) = BB := ⟨_, rfl⟩
        rw [bc_rune, hBB] at HAR
        rw [hBB] at HNX HBL
        clear hBB i6 i7 HA
        go_wp2_with (first
          | (go_at_call 43; (with_reducible refine HIT.out.mono ?_); rintro e w4 ⟨rfl, hb4⟩; have HB4 : Hid (Below w.heap.size w w4) := HB.out.trans (hb4.mono HB.out.size); have HO4 : Hid (w4.ownsRow w.heap.size 5 1 u6 acc.length (bc acc)) := ownsRow_below HO.out hb4 (Nat.le_refl _); clear hb4)
          | (go_at_call 44; (with_reducible refine (HAR.out w4 HO4.out HB4.out.size).mono ?_); rintro e w5 ⟨v5, rfl, ho5, o5, hg5'⟩; have HO5 : Hid (w5.ownsRow w.heap.size 5 1 v5 (acc ++ BB).length (bc (acc ++ BB))) := (by unfold Hid; rw [bc_append, List.length_append]; rw [bc_length] at ho5; exact ho5); have HB5 : Hid (Below w.heap.size w w5) := (HB4.out.alloc HB4.out.size _).grown hg5' (by have := HB4.out.size; simp; omega) (fun j hj => (HO4.out.lt j hj).1); clear ho5 hg5'))
        go_roundw
        case rel => exact ⟨k + n0, acc ++ BB, by omega, by omega, by go_num, HQN.out, HNX.out, by rw [List.length_append]; have := HBL.out; omega, HO5.out, HB5.out⟩
        case measure => simp [intOf]; omega
    · have hge : ¬ (k : Int) < (s.size : Int) - 1 := by omega
      have HN : Hid (acc = Q) := by unfold Hid; rw [← HA.out, hqin.end' hlt]; simp
      have hcv := own_string_any HO.out
      go_wp2
      go_ret2
      exact ⟨by rw [HN.out]; rfl, HB.out⟩
set_option maxRecDepth 1000000 in
set_option maxHeartbeats 8000000 in
theorem rTextOf_any (s : ByteArray) (hs : s.size ≤ 4294967280) (w : World) (hT : Lt w) :
    Calls Tryz.prog 22 #[.string s] w fun e w' => e = .returned (txV s) ∧ Below w.heap.size w w' := by
  unfold txV
  by_cases hk : kOf s = some 5
  · rw [if_pos hk]
    unfold txB
    by_cases h96 : bt s 0 = 96
    · rw [if_pos h96]; exact rTextOf_raw s hs hk h96 w hT
    · rw [if_neg h96]; exact rTextOf_quo s hs hk h96 w hT
  · rw [if_neg hk]
    have HK0 := rKind_no s hs w hT
    obtain ⟨K, hK⟩ : ∃ K, kNo s = K := ⟨_, rfl⟩
    rw [hK] at HK0
    have HK : Hid (Calls Tryz.prog 17 #[.string s] w fun e w' => (∃ z, e = .returned (.tuple #[.int .i64 (K : Int), .bool z])) ∧ Below w.heap.size w w') := HK0
    have hK3 : ((K : Int) != 5) = true := by
      rw [bne_iff_ne]
      intro e
      exact hk ((kNo_is s 5 (by omega)).1 (by omega))
    clear hk hK HK0 hT
    go_enter Tryz.func22, Tryz.ntmps22
    go_wp2_with (go_at_call 17; (with_reducible refine HK.out.mono ?_); rintro e w3 ⟨⟨z, rfl⟩, hb3⟩; have HB3 : Hid (Below w.heap.size w w3) := hb3; clear hb3)
    go_ret2
    exact ⟨rfl, HB3.out⟩
end Go.Proofs.YtnaipmgdipflgaaGreatDoor
