import Derived.Test.YteolfolkolpehaaDoorRb
namespace Go.Proofs.YteolfolkolpehaaDoor
open Go.ChangeShapes Go.WideShapes Go.ChangeAt Go.RowKit
set_option linter.unusedVariables false

theorem atoi_any (s : ByteArray) (v : World) (hs : s.size ≤ 140737488351232) (h : nwh s.data.toList = true) :
    Calls Tryd.prog 82 #[.string s] v fun e w' => e = .returned (.tuple #[.int .i64 (vl s.data.toList), .nilIface]) ∧ Below v.heap.size v w' := by
  refine (Tryd.strconv_Atoi_ok s (by omega) (vl s.data.toList) (nwh_atoi h) v).mono ?_
  rintro e w ⟨rfl, hw⟩
  refine ⟨rfl, ?_⟩
  rcases hw with rfl | ⟨t, rfl⟩
  · exact Below.refl _ _
  · exact Lib.bytesWorld_below _ _ _
theorem vl_bounds {l : List UInt8} (h : nwh l = true) : -9223372036854775808 ≤ vl l ∧ vl l ≤ 9223372036854775807 := Lib.atoiAll_bounds (nwh_atoi h)
theorem ext_data (s : ByteArray) (i k : Nat) (hk : k ≤ s.size) (hi : i ≤ k) : (s.extract i k).data.toList = (s.data.toList.drop i).take (k - i) := Lib.extract_data s i k
theorem ext_next {s : ByteArray} {i k : Nat} {x : UInt8} (hk : k < s.size) (hi : i ≤ k) (hx : s.data.toList[k]? = some x) : (s.extract i (k + 1)).data.toList = (s.extract i k).data.toList ++ [x] := by
  rw [ext_data s i k (by omega) hi, ext_data s i (k + 1) (by omega) (by omega), show k + 1 - i = (k - i) + 1 by omega, List.take_add_one]
  congr 1
  rw [List.getElem?_drop, show i + (k - i) = k by omega, hx]
  rfl

set_option maxRecDepth 1000000 in
set_option maxHeartbeats 2000000 in
theorem rtake_any (s : ByteArray) (i : Nat) (e : UInt8) (v : World) (hs : s.size ≤ 140737488351232) (hi : i ≤ s.size) (he : isD e = false) (he2 : e ≠ 45) (n : Int) (q : Nat) (ok : Bool) (hq : tkA s i e = (n, q, ok)) :
    Calls Tryd.prog 62 #[.string s, .int .i64 (i : Int), .int .u8 e.toNat] v fun r w' => r = .returned (.tuple #[.int .i64 n, .int .i64 (q : Nat), .bool ok]) ∧ Below v.heap.size v w' := by
  have hl := bytes_len s
  have HQ : Hid (((tkR e [] (s.data.toList.drop i)).1, i + (tkR e [] (s.data.toList.drop i)).2.1, (tkR e [] (s.data.toList.drop i)).2.2) = (n, q, ok)) := by unfold Hid; rw [tk_A s i e he he2, hq]
  clear hq
  go_enter Tryd.func62, Tryd.ntmps62
  go_wp2
  go_loopg [9] (s.size - i) (fun gk sk wr => ∃ (k : Nat), gk = s.size - k ∧ i ≤ k ∧ k ≤ s.size ∧ sk = .int .i64 (k : Int) ∧ ((tkR e (s.extract i k).data.toList (s.data.toList.drop k)).1, k + (tkR e (s.extract i k).data.toList (s.data.toList.drop k)).2.1, (tkR e (s.extract i k).data.toList (s.data.toList.drop k)).2.2) = (n, q, ok) ∧ Below v.heap.size v wr)
  case atStart => exact ⟨i, rfl, Nat.le_refl _, hi, rfl, by rw [ext_data s i i hi (Nat.le_refl _), Nat.sub_self, List.take_zero]; exact HQ.out, Below.refl _ _⟩
  case round =>
    obtain ⟨k, rfl, hik, hks, rfl, htk, hbel⟩ := hrel
    have HB : Hid (Below v.heap.size v wr) := hbel
    have HT : Hid (((tkR e (s.extract i k).data.toList (s.data.toList.drop k)).1, k + (tkR e (s.extract i k).data.toList (s.data.toList.drop k)).2.1, (tkR e (s.extract i k).data.toList (s.data.toList.drop k)).2.2) = (n, q, ok)) := htk
    clear hbel htk HQ
    cases hx : s.data.toList[k]? with
    | none =>
      have hke : k = s.size := by have := List.getElem?_eq_none_iff.1 hx; omega
      have HZ : Hid (n = 0 ∧ q = k ∧ ok = false) := by
        have h1 := HT.out
        rw [List.drop_eq_nil_of_le (List.getElem?_eq_none_iff.1 hx)] at h1
        simp only [tkR, Prod.mk.injEq] at h1
        exact ⟨h1.1.symm, by omega, h1.2.2.symm⟩
      have t0 : ((k : Int) == (s.size : Int)) = true := by rw [beq_iff_eq]; omega
      clear HT hx hke
      go_wp2
      go_ret3
      exact ⟨by rw [HZ.out.1, HZ.out.2.1, HZ.out.2.2]; rfl, HB.out⟩
    | some x =>
      have hkl : k < s.size := by have := (List.getElem?_eq_some_iff.1 hx).1; omega
      have t0 : ((k : Int) == (s.size : Int)) = false := by rw [beq_eq_false_iff_ne]; omega
      have hsx : s[k]'hkl = x := by
        have := (List.getElem?_eq_some_iff.1 hx).2
        rw [← this]; rfl
      have hik' : (i : Int) ≤ (k : Int) := by omega
      have hkl' : (k : Int) < (s.size : Int) := by omega
      have hks' : (k : Int) ≤ (s.size : Int) := by omega
      have m1 : IntKind.i64.wrap ((k : Int) + 1) = (k : Int) + 1 := IntWalk.i64_in _ ⟨by omega, by omega⟩
      obtain ⟨P, hP⟩ : ∃ P, s.extract i k = P := ⟨_, rfl⟩
      obtain ⟨P1, hP1⟩ : ∃ P1, s.extract i (k + 1) = P1 := ⟨_, rfl⟩
      have hPn : P1.data.toList = P.data.toList ++ [x] := by rw [← hP, ← hP1]; exact ext_next hkl hik hx
      have hPs : P.size ≤ 140737488351232 := by rw [← hP]; simp; omega
      have hPs1 : P1.size ≤ 140737488351232 := by rw [← hP1]; simp; omega
      obtain ⟨W, hW⟩ : ∃ W, nwh P.data.toList = W := ⟨_, rfl⟩
      obtain ⟨Wb, hWb⟩ : ∃ W, nwb P.data.toList = W := ⟨_, rfl⟩
      obtain ⟨V, hV⟩ : ∃ W, nwh P1.data.toList = W := ⟨_, rfl⟩
      obtain ⟨Vb, hVb⟩ : ∃ W, nwb P1.data.toList = W := ⟨_, rfl⟩
      have HT1 : Hid (((if x = e ∧ W = true then (vl P.data.toList, 1, true) else if Vb = true then ((tkR e P1.data.toList (s.data.toList.drop (k + 1))).1, (tkR e P1.data.toList (s.data.toList.drop (k + 1))).2.1 + 1, (tkR e P1.data.toList (s.data.toList.drop (k + 1))).2.2) else (0, 0, false) : Int × Nat × Bool)) = (n, q - k, ok) ∧ k ≤ q) := by
        have h1 := HT.out
        rw [drop_at hx, hP, tkR, hW, ← hPn, hVb] at h1
        simp only [Prod.mk.injEq] at h1
        refine ⟨Prod.ext h1.1 (Prod.ext ?_ h1.2.2), by omega⟩
        show _ = q - k
        omega
      have N1 : Hid (∀ w, Calls Tryd.prog 81 #[.string P] w fun e w' => e = .returned (.tuple #[.bool W, .bool Wb]) ∧ Below w.heap.size w w') := fun w => rnumber_any P w hPs W Wb hW hWb
      have N2 : Hid (∀ w, Calls Tryd.prog 81 #[.string P1] w fun e w' => e = .returned (.tuple #[.bool V, .bool Vb]) ∧ Below w.heap.size w w') := fun w => rnumber_any P1 w hPs1 V Vb hV hVb
      have HP1 : Hid (s.extract i (k + 1) = P1) := hP1
      have AT : Hid (W = true → ∀ w, Calls Tryd.prog 82 #[.string P] w fun e w' => e = .returned (.tuple #[.int .i64 (vl P.data.toList), .nilIface]) ∧ Below w.heap.size w w') := fun h w => atoi_any P w hPs (by rw [hW, h])
      have hP1' : s.extract i (k + 1) = P1 := hP1
      clear HT hx hPn hW hWb hV hVb hPs hPs1 hP1'
      by_cases hxe : x = e
      · have t1 : ((x.toNat : Int) == (e.toNat : Int)) = true := by rw [hxe, beq_self_eq_true]
        cases W with
        | true =>
          have HZ : Hid (n = vl P.data.toList ∧ q = k + 1 ∧ ok = true) := by
            have h1 := HT1.out
            rw [if_pos ⟨hxe, rfl⟩] at h1
            simp only [Prod.mk.injEq] at h1
            exact ⟨h1.1.1.symm, by omega, h1.1.2.2.symm⟩
          have AT2 : Hid (∀ w, Calls Tryd.prog 82 #[.string P] w fun e w' => e = .returned (.tuple #[.int .i64 (vl P.data.toList), .nilIface]) ∧ Below w.heap.size w w') := AT.out rfl
          clear HT1 hxe AT
          go_wp2_with (first
            | (go_at_call 81; (with_reducible refine (N1.out _).mono ?_); rintro r w1 ⟨rfl, hb1⟩; have HB1 : Hid (Below v.heap.size v w1) := HB.out.trans (hb1.mono HB.out.size); clear hb1)
            | (go_at_call 82; (with_reducible refine (AT2.out _).mono ?_); rintro r w2 ⟨rfl, hb2⟩; have HB2 : Hid (Below v.heap.size v w2) := HB1.out.trans (hb2.mono HB1.out.size); clear hb2))
          go_ret3
          exact ⟨by rw [HZ.out.1, HZ.out.2.1, HZ.out.2.2]; rfl, HB2.out⟩
        | false =>
          have HT2 : Hid (((if Vb = true then ((tkR e P1.data.toList (s.data.toList.drop (k + 1))).1, (tkR e P1.data.toList (s.data.toList.drop (k + 1))).2.1 + 1, (tkR e P1.data.toList (s.data.toList.drop (k + 1))).2.2) else (0, 0, false) : Int × Nat × Bool)) = (n, q - k, ok) ∧ k ≤ q) := by
            have h1 := HT1.out
            rw [if_neg (fun h => Bool.noConfusion h.2)] at h1
            exact h1
          clear HT1 hxe
          cases Vb with
          | true =>
            have HZ : Hid (((tkR e (s.extract i (k + 1)).data.toList (s.data.toList.drop (k + 1))).1, k + 1 + (tkR e (s.extract i (k + 1)).data.toList (s.data.toList.drop (k + 1))).2.1, (tkR e (s.extract i (k + 1)).data.toList (s.data.toList.drop (k + 1))).2.2) = (n, q, ok)) := by
              have h1 := HT2.out
              unfold Hid
              rw [HP1.out]
              rw [if_pos rfl] at h1
              simp only [Prod.mk.injEq] at h1 ⊢
              exact ⟨h1.1.1, by omega, h1.1.2.2⟩
            clear HT2
            go_wp2_with (first
              | (go_at_call 81; (with_reducible refine (N1.out _).mono ?_); rintro r w1 ⟨rfl, hb1⟩; have HB1 : Hid (Below v.heap.size v w1) := HB.out.trans (hb1.mono HB.out.size); clear hb1)
              | (go_at_call 81; (with_reducible refine (N2.out _).mono ?_); rintro r w2 ⟨rfl, hb2⟩; have HB2 : Hid (Below v.heap.size v w2) := HB1.out.trans (hb2.mono HB1.out.size); clear hb2))
            go_roundg (s.size - (k + 1))
            case measure => omega
            case rel => exact ⟨k + 1, rfl, by omega, by omega, by go_num, HZ.out, HB2.out⟩
          | false =>
            have HZ : Hid (n = 0 ∧ q = k ∧ ok = false) := by
              have h1 := HT2.out
              rw [if_neg Bool.false_ne_true] at h1
              simp only [Prod.mk.injEq] at h1
              exact ⟨h1.1.1.symm, by omega, h1.1.2.2.symm⟩
            clear HT2
            go_wp2_with (first
              | (go_at_call 81; (with_reducible refine (N1.out _).mono ?_); rintro r w1 ⟨rfl, hb1⟩; have HB1 : Hid (Below v.heap.size v w1) := HB.out.trans (hb1.mono HB.out.size); clear hb1)
              | (go_at_call 81; (with_reducible refine (N2.out _).mono ?_); rintro r w2 ⟨rfl, hb2⟩; have HB2 : Hid (Below v.heap.size v w2) := HB1.out.trans (hb2.mono HB1.out.size); clear hb2))
            go_ret3
            exact ⟨by rw [HZ.out.1, HZ.out.2.1, HZ.out.2.2]; rfl, HB2.out⟩
      · have t1 : ((x.toNat : Int) == (e.toNat : Int)) = false := by rw [beq_eq_false_iff_ne]; intro h; exact hxe (UInt8.toNat_inj.1 (by omega))
        have HT2 : Hid (((if Vb = true then ((tkR e P1.data.toList (s.data.toList.drop (k + 1))).1, (tkR e P1.data.toList (s.data.toList.drop (k + 1))).2.1 + 1, (tkR e P1.data.toList (s.data.toList.drop (k + 1))).2.2) else (0, 0, false) : Int × Nat × Bool)) = (n, q - k, ok) ∧ k ≤ q) := by
          have h1 := HT1.out
          rw [if_neg (fun h => hxe h.1)] at h1
          exact h1
        clear HT1 hxe
        cases Vb with
        | true =>
          have HZ : Hid (((tkR e (s.extract i (k + 1)).data.toList (s.data.toList.drop (k + 1))).1, k + 1 + (tkR e (s.extract i (k + 1)).data.toList (s.data.toList.drop (k + 1))).2.1, (tkR e (s.extract i (k + 1)).data.toList (s.data.toList.drop (k + 1))).2.2) = (n, q, ok)) := by
            have h1 := HT2.out
            unfold Hid
            rw [HP1.out]
            rw [if_pos rfl] at h1
            simp only [Prod.mk.injEq] at h1 ⊢
            exact ⟨h1.1.1, by omega, h1.1.2.2⟩
          clear HT2
          go_wp2_with (first
            | (go_at_call 81; (with_reducible refine (N1.out _).mono ?_); rintro r w1 ⟨rfl, hb1⟩; have HB1 : Hid (Below v.heap.size v w1) := HB.out.trans (hb1.mono HB.out.size); clear hb1)
            | (go_at_call 81; (with_reducible refine (N2.out _).mono ?_); rintro r w2 ⟨rfl, hb2⟩; have HB2 : Hid (Below v.heap.size v w2) := HB1.out.trans (hb2.mono HB1.out.size); clear hb2))
          go_roundg (s.size - (k + 1))
          case measure => omega
          case rel => exact ⟨k + 1, rfl, by omega, by omega, by go_num, HZ.out, HB2.out⟩
        | false =>
          have HZ : Hid (n = 0 ∧ q = k ∧ ok = false) := by
            have h1 := HT2.out
            rw [if_neg Bool.false_ne_true] at h1
            simp only [Prod.mk.injEq] at h1
            exact ⟨h1.1.1.symm, by omega, h1.1.2.2.symm⟩
          clear HT2
          go_wp2_with (first
            | (go_at_call 81; (with_reducible refine (N1.out _).mono ?_); rintro r w1 ⟨rfl, hb1⟩; have HB1 : Hid (Below v.heap.size v w1) := HB.out.trans (hb1.mono HB.out.size); clear hb1)
            | (go_at_call 81; (with_reducible refine (N2.out _).mono ?_); rintro r w2 ⟨rfl, hb2⟩; have HB2 : Hid (Below v.heap.size v w2) := HB1.out.trans (hb2.mono HB1.out.size); clear hb2))
          go_ret3
          exact ⟨by rw [HZ.out.1, HZ.out.2.1, HZ.out.2.2]; rfl, HB2.out⟩
end Go.Proofs.YteolfolkolpehaaDoor
