import Derived.Test.YtnaipmgdipflgaaGreatDoorVa2
import Derived.Test.YtnaipmgdipflgaaGreatDoorRlE
import Derived.Test.YtnaipmgdipflgaaGreatDoorLye
namespace Go.Proofs.YtnaipmgdipflgaaGreatDoor
open Go.ChangeShapes Go.WideShapes Go.ChangeAt Go.RowKit Go.Maps Go.WideMaps
set_option linter.unusedVariables false
set_option linter.unusedSimpArgs false

/-- a character's value -/
def chN (s : ByteArray) : Nat := match itm s 1 39 with | some it => it.v | none => 0
def chV (s : ByteArray) : Value := if kOf s = some 4 then .tuple #[.int .i64 (chN s : Int), .int .i64 0] else .tuple #[.int .i64 0, .int .i64 22]
theorem kOf_quote {s : ByteArray} {k : Nat} (h : kOf s = some k) (hk : k = 4 ∨ k = 5) : (k = 5 ∧ bt s 0 = 96) ∨ (bt s 0 ≠ 96 ∧ (k = 4 → bt s 0 = 39) ∧ (k = 5 → bt s 0 = 34) ∧ 2 ≤ s.size ∧ ∃ c, quo s (bt s 0) 1 0 none = some (s.size - 1, c, none) ∧ (k = 4 → c = 1)) := by
  obtain ⟨h0, hp, -, -, -, -⟩ := kOf_some h
  have hq : quP s 0 = .ok k s.size := by
    rcases pce_shape h0 hp with e | e | e | e | e | e
    · omega
    · omega
    · omega
    · omega
    · exact e.2
    · omega
  have hb : bt s 0 = 39 ∨ bt s 0 = 34 ∨ bt s 0 = 96 := by
    apply Classical.byContradiction
    intro hb
    unfold pce at hp
    by_cases g1 : blk (bt s 0) = true
    · rw [if_pos g1] at hp; have := (Pce.ok.inj hp).1; omega
    rw [if_neg g1] at hp
    by_cases g2 : bt s 0 = 47 ∧ bt s (0 + 1) = 47
    · rw [if_pos g2] at hp; have := (Pce.ok.inj hp).1; omega
    rw [if_neg g2] at hp
    by_cases g3 : bt s 0 = 47 ∧ bt s (0 + 1) = 42
    · rw [if_pos g3] at hp
      cases hf : fn2 s 42 47 (0 + 2) with
      | none => rw [hf] at hp; cases hp
      | some x => rw [hf] at hp; have := (Pce.ok.inj hp).1; omega
    rw [if_neg g3] at hp
    by_cases g4 : isL (rn s 0) = true
    · rw [if_pos g4] at hp
      unfold nmP at hp
      split at hp
      · cases hp
      · have h1 := (Pce.ok.inj hp).1
        have := kwd_2 (s.extract 0 (rnE s 0)).data.toList
        omega
    rw [if_neg g4] at hp
    by_cases g5 : 48 ≤ bt s 0 ∧ bt s 0 ≤ 57
    · rw [if_pos g5] at hp
      unfold ruP at hp
      split at hp
      · have := (Pce.ok.inj hp).1; omega
      · cases hp
    rw [if_neg g5, if_neg hb] at hp
    obtain ⟨n, n1, n2, -⟩ := mkP_ok h0 hp
    omega
  unfold quP at hq
  by_cases h96 : bt s 0 = 96
  · rw [if_pos h96] at hq
    split at hq
    · left; exact ⟨(Pce.ok.inj hq).1.symm, h96⟩
    · cases hq
  · right
    rw [if_neg h96] at hq
    cases hr : quo s (bt s 0) (0 + 1) 0 none with
    | none => rw [hr] at hq; cases hq
    | some x =>
      obtain ⟨t, c, bad⟩ := x
      rw [hr] at hq
      simp only at hq
      have hle := quo_le s (bt s 0) (s.size - 1) 1 0 none t c bad (Nat.le_refl _) hr
      split at hq
      · cases hq
      · rename_i h39
        cases bad with
        | some z => cases hq
        | none =>
          simp only at hq
          obtain ⟨e1, e2⟩ := Pce.ok.inj hq
          refine ⟨h96, ?_, ?_, by omega, c, ?_, ?_⟩
          · intro h4
            by_cases hb9 : bt s 0 = 39
            · exact hb9
            · rw [if_neg hb9] at e1; omega
          · intro h5
            by_cases hb9 : bt s 0 = 39
            · rw [if_pos hb9] at e1; omega
            · omega
          · rw [show s.size - 1 = t by omega]
          · intro h4
            by_cases hb9 : bt s 0 = 39
            · exact Classical.byContradiction fun hc => h39 ⟨hb9, hc⟩
            · rw [if_neg hb9] at e1; omega
theorem kOf_char {s : ByteArray} (h : kOf s = some 4) : ∃ it, itm s 1 39 = some it ∧ ita s 1 39 = some it ∧ 1 < s.size ∧ chN s = it.v ∧ it.v ≤ 1114111 := by
  rcases kOf_quote h (.inl rfl) with e | ⟨-, h39, -, h2, c, hq, hc⟩
  · omega
  · rw [h39 rfl] at hq
    have hc1 := hc rfl
    have h1 : 1 < s.size := by omega
    by_cases h10 : bt s 1 = 10
    · rw [quo_end (fun e => e.2 h10)] at hq; cases hq
    · by_cases hq9 : bt s 1 = 39
      · rw [quo_quote h1 h10 hq9] at hq
        have := Option.some.inj hq
        simp only [Prod.mk.injEq] at this
        omega
      · cases hi : itm s 1 39 with
        | none => rw [quo_no ⟨h1, h10⟩ hq9 hi] at hq; cases hq
        | some it =>
          refine ⟨it, rfl, ?_, h1, by unfold chN; rw [hi], (itm_n h1 hi).2.2⟩
          unfold ita
          rw [if_neg (by omega)]
          exact hi
set_option maxRecDepth 1000000 in
set_option maxHeartbeats 8000000 in
theorem Char_any (s : ByteArray) (hs : s.size ≤ 4294967280) (w : World) (hS : Spl w) (hT : Lt w) (hM : MaxL w) :
    Calls Tryz.prog 15 #[.string s] w fun e w' => e = .returned (chV s) ∧ Below w.heap.size w w' := by
  have HI0 := isOf_any s 4 (by omega) hs w hS hT hM
  unfold chV
  unfold kIs at HI0
  by_cases hk : kOf s = some 4
  · rw [if_pos hk]
    rw [decide_eq_true hk] at HI0
    have HI : Hid (Calls Tryz.prog 35 #[.string s, .int .u8 4] w fun e w' => e = .returned (.bool true) ∧ Below w.heap.size w w') := HI0
    obtain ⟨it, h1, h2, h3, h4, h5⟩ := kOf_char hk
    have HT0 : ∀ v, Below w.heap.size w v → _ := fun v hv => itemAt_any s 1 39 hs (.inr rfl) (by omega) v (hT.below hv).1
    rw [h2] at HT0
    rw [h4]
    obtain ⟨n0, v0, e0, b0⟩ := it
    have HIT : Hid (∀ v, Below w.heap.size w v → Calls Tryz.prog 37 #[.string s, .int .i64 1, .int .u8 39] v fun e w' => e = .returned (.tuple #[.agg #[.int .i64 (v0 : Int), .int .i64 ((1 + n0 : Nat) : Int), .bool e0, .bool b0], .bool true]) ∧ Below v.heap.size v w') := HT0
    simp only
    clear HT0 HI0 hk hS hT hM h1 h2 h4
    go_enter Tryz.func15, Tryz.ntmps15
    go_wp2_with (first
      | (go_at_call 35; (with_reducible refine HI.out.mono ?_); rintro e w3 ⟨rfl, hb3⟩; have HB3 : Hid (Below w.heap.size w w3) := hb3; clear hb3)
      | (go_at_call 37; (with_reducible refine (HIT.out _ HB3.out).mono ?_); rintro e w4 ⟨rfl, hb4⟩; have HB4 : Hid (Below w.heap.size w w4) := HB3.out.trans (hb4.mono HB3.out.size); clear hb4))
    go_ret2
    exact ⟨rfl, HB4.out.alloc HB4.out.size _⟩
  · rw [if_neg hk]
    rw [decide_eq_false hk] at HI0
    have HI : Hid (Calls Tryz.prog 35 #[.string s, .int .u8 4] w fun e w' => e = .returned (.bool false) ∧ Below w.heap.size w w') := HI0
    clear HI0 hk hS hT hM
    go_enter Tryz.func15, Tryz.ntmps15
    go_wp2_with (go_at_call 35; (with_reducible refine HI.out.mono ?_); rintro e w3 ⟨rfl, hb3⟩; have HB3 : Hid (Below w.heap.size w w3) := hb3; clear hb3)
    go_ret2
    exact ⟨rfl, HB3.out⟩
set_option maxRecDepth 1000000 in
set_option maxHeartbeats 8000000 in
theorem rCharOf_any (s : ByteArray) (hs : s.size ≤ 4294967280) (w : World) (hT : Lt w) :
    Calls Tryz.prog 21 #[.string s] w fun e w' => e = .returned (chV s) ∧ Below w.heap.size w w' := by
  have HK0 := rKind_no s hs w hT
  unfold chV
  obtain ⟨K, hK⟩ : ∃ K, kNo s = K := ⟨_, rfl⟩
  rw [hK] at HK0
  have HK : Hid (Calls Tryz.prog 17 #[.string s] w fun e w' => (∃ z, e = .returned (.tuple #[.int .i64 (K : Int), .bool z])) ∧ Below w.heap.size w w') := HK0
  by_cases hk : kOf s = some 4
  · rw [if_pos hk]
    have hK3 : K = 4 := by rw [← hK]; exact (kNo_is s 4 (by omega)).2 hk
    subst hK3
    obtain ⟨it, h1, h2, h3, h4, h5⟩ := kOf_char hk
    have HT0 : ∀ v, Below w.heap.size w v → _ := fun v hv => rItem_any s 1 39 hs h3 (.inr rfl) v (hT.below hv).1
    rw [h1] at HT0
    rw [h4]
    obtain ⟨n0, v0, e0, b0⟩ := it
    have HIT : Hid (∀ v, Below w.heap.size w v → Calls Tryz.prog 43 #[.string s, .int .i64 1, .int .u8 39] v fun e w' => e = .returned (.tuple #[.int .i64 (n0 : Int), .int .i64 (v0 : Int), .bool e0, .bool b0]) ∧ Below v.heap.size v w') := HT0
    simp only
    clear HT0 hk hT h1 h2 h4 hK HK0
    go_enter Tryz.func21, Tryz.ntmps21
    go_wp2_with (first
      | (go_at_call 17; (with_reducible refine HK.out.mono ?_); rintro e w3 ⟨⟨z, rfl⟩, hb3⟩; have HB3 : Hid (Below w.heap.size w w3) := hb3; clear hb3)
      | (go_at_call 43; (with_reducible refine (HIT.out _ HB3.out).mono ?_); rintro e w4 ⟨rfl, hb4⟩; have HB4 : Hid (Below w.heap.size w w4) := HB3.out.trans (hb4.mono HB3.out.size); clear hb4))
    go_ret2
    exact ⟨rfl, HB4.out⟩
  · rw [if_neg hk]
    have hK3 : ((K : Int) != 4) = true := by
      rw [bne_iff_ne]
      intro e
      exact hk ((kNo_is s 4 (by omega)).1 (by omega))
    clear hk hK HK0 hT
    go_enter Tryz.func21, Tryz.ntmps21
    go_wp2_with (go_at_call 17; (with_reducible refine HK.out.mono ?_); rintro e w3 ⟨⟨z, rfl⟩, hb3⟩; have HB3 : Hid (Below w.heap.size w w3) := hb3; clear hb3)
    go_ret2
    exact ⟨rfl, HB3.out⟩
end Go.Proofs.YtnaipmgdipflgaaGreatDoor

namespace Go.Proofs.YtnaipmgdipflgaaGreatDoor
open Go.ChangeShapes Go.WideShapes Go.ChangeAt Go.RowKit Go.Maps Go.WideMaps
set_option linter.unusedVariables false
set_option linter.unusedSimpArgs false

/-- what stands between backquotes, from a place on -/
def rwB (s : ByteArray) (k : Nat) : List UInt8 := if h : k + 1 < s.size then (if bt s k = 13 then rwB s (k + 1) else s[k]'(by omega) :: rwB s (k + 1)) else []
termination_by s.size - k
theorem rwB_end {s : ByteArray} {k : Nat} (h : ¬ k + 1 < s.size) : rwB s k = [] := by rw [rwB, dif_neg h]
theorem rwB_cr {s : ByteArray} {k : Nat} (h : k + 1 < s.size) (hb : bt s k = 13) : rwB s k = rwB s (k + 1) := by rw [rwB, dif_pos h, if_pos hb]
theorem rwB_on {s : ByteArray} {k : Nat} (h : k + 1 < s.size) (hb : bt s k ≠ 13) : rwB s k = s[k]'(by omega) :: rwB s (k + 1) := by rw [rwB, dif_pos h, if_neg hb]
/-- Text's answer -/
def txB (s : ByteArray) : List UInt8 := if bt s 0 = 96 then rwB s 1 else tvs s 1
def txV (s : ByteArray) : Value := if kOf s = some 5 then .tuple #[.string ⟨(txB s).toArray⟩, .int .i64 0] else .tuple #[.string ⟨#[]⟩, .int .i64 22]

set_option maxRecDepth 1000000 in
set_option maxHeartbeats 8000000 in
theorem rawValue_any (s : ByteArray) (hs : s.size ≤ 4294967280) (w : World) :
    Calls Tryz.prog 38 #[.string s] w fun e w' => e = .returned (.string ⟨(rwB s 1).toArray⟩) ∧ Below w.heap.size w w' := by
  obtain ⟨i0, hi, hz0, hz1, hz2⟩ := info_parts infoU8b
  obtain ⟨Q, hQ⟩ : ∃ Q, rwB s 1 = Q := ⟨_, rfl⟩
  have HQ : Hid (rwB s 1 = Q) := hQ
  rw [hQ]
  clear hQ
  go_enter Tryz.func38, Tryz.ntmps38
  go_wp2
  go_loopw [3, 4] (fun so si wr => ∃ (k : Nat) (acc : List UInt8), 1 ≤ k ∧ k ≤ s.size + 1 ∧ si = .int .i64 (k : Int) ∧ acc ++ rwB s k = Q ∧ acc.length ≤ k ∧ wr.ownsRow w.heap.size 5 1 so acc.length (bc acc) ∧ Below w.heap.size w wr) (fun _ si _ => s.size + 1 - (intOf si).toNat)
  case atStart => exact ⟨1, [], Nat.le_refl _, by omega, rfl, HQ.out, by simp, World.ownsRow_nil _ _ _ _, Below.refl _ _⟩
  case round =>
    obtain ⟨k, acc, hk1, hks, rfl, hacc, hal, hown, hbel⟩ := hrel
    have HA : Hid (acc ++ rwB s k = Q) := hacc
    have HO : Hid (wr.ownsRow w.heap.size 5 1 u3 acc.length (bc acc)) := hown
    have HB : Hid (Below w.heap.size w wr) := hbel
    clear hacc hown hbel
    by_cases hlt : k + 1 < s.size
    · have hlt' : (k : Int) < (s.size : Int) - 1 := by omega
      have hkI : (k : Int) < (s.size : Int) := by omega
      have hkl : k < s.size := by omega
      have hbt := bt_in hkl
      obtain ⟨c, hc⟩ : ∃ c, (s[k]'hkl).toNat = c := ⟨_, rfl⟩
      rw [hc] at hbt
      by_cases h13 : c = 13
      · have HN : Hid (acc ++ rwB s (k + 1) = Q) := by unfold Hid; rw [← HA.out, rwB_cr hlt (by rw [hbt]; exact h13)]
        subst h13
        clear hbt
        go_wp2
        go_roundw
        case rel => exact ⟨k + 1, acc, by omega, by omega, by go_num, HN.out, by omega, HO.out, HB.out⟩
        case measure => simp [intOf]; omega
      · have h13' : ((c : Int) != 13) = true := by rw [bne_iff_ne]; omega
        obtain ⟨BB, hBB⟩ : ∃ BB : List UInt8, [s[k]'hkl] = BB := ⟨_, rfl⟩
        have HN : Hid ((acc ++ BB) ++ rwB s (k + 1) = Q) := by unfold Hid; rw [← HA.out, rwB_on hlt (by rw [hbt]; exact h13), ← hBB]; simp
        have HBC : Hid (bc BB = [.int .u8 (c : Int)]) := by unfold Hid; rw [← hBB, ← hc]; simp [bc]
        have HBL : Hid (BB.length = 1) := by unfold Hid; rw [← hBB]; rfl
        clear hbt hBB
        go_wp2_with (at_builtin; (refine wpList_append_at _ rfl (.tmp 16) (.tmp 20) 79 rfl w.heap.size 5 i0 (.int .u8 0) 1 1 Tryz.underlying79 hi hz0 hz1 hz2 rfl (by decide) _ acc.length (bc acc) rfl (HO.out.alloc _) (some ⟨wr.heap.size, 0, none⟩) 1 1 [.int .u8 (c : Int)] rfl rfl (fun h => by cases h) (fun ad had => by cases had; exact cells_new _ _ _) (fun u hu => by simp at hu; subst hu; rfl) (by unfold maxLen; omega) (by omega) (by have := HB.out.size; simp; omega) ?_); intro v5 w5 ho5 hg5' _; have HO5 : Hid (w5.ownsRow w.heap.size 5 1 v5 (acc ++ BB).length (bc (acc ++ BB))) := (by unfold Hid; rw [bc_append, List.length_append, HBC.out, HBL.out]; exact ho5); have HB5 : Hid (Below w.heap.size w w5) := (HB.out.alloc HB.out.size _).grown hg5' (by have := HB.out.size; simp; omega) (fun j hj => (HO.out.lt j hj).1); clear ho5 hg5')
        go_roundw
        case rel => exact ⟨k + 1, acc ++ BB, by omega, by omega, by go_num, HN.out, by rw [List.length_append, HBL.out]; omega, HO5.out, HB5.out⟩
        case measure => simp [intOf]; omega
    · have hge : ¬ (k : Int) < (s.size : Int) - 1 := by omega
      have HN : Hid (acc = Q) := by unfold Hid; rw [← HA.out, rwB_end hlt]; simp
      have hcv := own_string_any HO.out
      go_wp2
      go_ret
      exact ⟨by rw [HN.out]; rfl, HB.out⟩
set_option maxRecDepth 1000000 in
set_option maxHeartbeats 8000000 in
theorem Text_any (s : ByteArray) (hs : s.size ≤ 4294967280) (w : World) (hS : Spl w) (hT : Lt w) (hM : MaxL w) :
    Calls Tryz.prog 16 #[.string s] w fun e w' => e = .returned (txV s) ∧ Below w.heap.size w w' := by
  have HI0 := isOf_any s 5 (by omega) hs w hS hT hM
  unfold txV
  unfold kIs at HI0
  by_cases hk : kOf s = some 5
  · rw [if_pos hk]
    rw [decide_eq_true hk] at HI0
    have HI : Hid (Calls Tryz.prog 35 #[.string s, .int .u8 5] w fun e w' => e = .returned (.bool true) ∧ Below w.heap.size w w') := HI0
    obtain ⟨h0, -, -, -, -, -⟩ := kOf_some hk
    have h0' : (0 : Int) < (s.size : Int) := by omega
    have hbt := bt_in h0
    obtain ⟨c, hc⟩ : ∃ c, (s[0]'h0).toNat = c := ⟨_, rfl⟩
    rw [hc] at hbt
    unfold txB
    rw [hbt]
    by_cases h96 : c = 96
    · rw [if_pos h96]
      have HV0 : ∀ v, _ := fun v => rawValue_any s hs v
      obtain ⟨V, hV⟩ : ∃ V : ByteArray, ⟨(rwB s 1).toArray⟩ = V := ⟨_, rfl⟩
      rw [hV] at HV0 ⊢
      have HV : Hid (∀ v, Calls Tryz.prog 38 #[.string s] v fun e w' => e = .returned (.string V) ∧ Below v.heap.size v w') := HV0
      have hq : ((c : Int) == 96) = true := by rw [beq_iff_eq]; omega
      clear HV0 hV HI0 hk hS hT hM hbt h96
      go_enter Tryz.func16, Tryz.ntmps16
      go_wp2_with (first
        | (go_at_call 35; (with_reducible refine HI.out.mono ?_); rintro e w3 ⟨rfl, hb3⟩; have HB3 : Hid (Below w.heap.size w w3) := hb3; clear hb3)
        | (go_at_call 38; (with_reducible refine (HV.out _).mono ?_); rintro e w4 ⟨rfl, hb4⟩; have HB4 : Hid (Below w.heap.size w w4) := HB3.out.trans (hb4.mono HB3.out.size); clear hb4))
      go_ret2
      exact ⟨rfl, HB4.out⟩
    · rw [if_neg h96]
      have HV0 : ∀ v, Below w.heap.size w v → _ := fun v hv => textValue_any s hs h0 v (hT.below hv).1
      obtain ⟨V, hV⟩ : ∃ V : ByteArray, ⟨(tvs s 1).toArray⟩ = V := ⟨_, rfl⟩
      rw [hV] at HV0 ⊢
      have HV : Hid (∀ v, Below w.heap.size w v → Calls Tryz.prog 39 #[.string s] v fun e w' => e = .returned (.string V) ∧ Below v.heap.size v w') := HV0
      have hq : ((c : Int) == 96) = false := by rw [beq_eq_false_iff_ne]; omega
      clear HV0 hV HI0 hk hS hT hM hbt h96
      go_enter Tryz.func16, Tryz.ntmps16
      go_wp2_with (first
        | (go_at_call 35; (with_reducible refine HI.out.mono ?_); rintro e w3 ⟨rfl, hb3⟩; have HB3 : Hid (Below w.heap.size w w3) := hb3; clear hb3)
        | (go_at_call 39; (with_reducible refine (HV.out _ HB3.out).mono ?_); rintro e w4 ⟨rfl, hb4⟩; have HB4 : Hid (Below w.heap.size w w4) := HB3.out.trans (hb4.mono HB3.out.size); clear hb4))
      go_ret2
      exact ⟨rfl, HB4.out⟩
  · rw [if_neg hk]
    rw [decide_eq_false hk] at HI0
    have HI : Hid (Calls Tryz.prog 35 #[.string s, .int .u8 5] w fun e w' => e = .returned (.bool false) ∧ Below w.heap.size w w') := HI0
    clear HI0 hk hS hT hM
    go_enter Tryz.func16, Tryz.ntmps16
    go_wp2_with (go_at_call 35; (with_reducible refine HI.out.mono ?_); rintro e w3 ⟨rfl, hb3⟩; have HB3 : Hid (Below w.heap.size w w3) := hb3; clear hb3)
    go_ret2
    exact ⟨rfl, HB3.out⟩
end Go.Proofs.YtnaipmgdipflgaaGreatDoor
