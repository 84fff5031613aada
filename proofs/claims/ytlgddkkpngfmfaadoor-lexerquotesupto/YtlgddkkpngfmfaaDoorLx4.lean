import Derived.Test.YtlgddkkpngfmfaaDoorLx3
namespace Go.Proofs.YtlgddkkpngfmfaaDoor
open Go.ChangeShapes Go.WideShapes Go.ChangeAt Go.RowKit
set_option linter.unusedVariables false
set_option linter.unusedSimpArgs false

theorem app_list (a b : ByteArray) : (a ++ b).data.toList = a.data.toList ++ b.data.toList := by simp
theorem ext1 (s : ByteArray) (k : Nat) (h : k < s.size) : (s.extract k (k + 1)).data.toList = [s[k]'h] := by
  apply List.ext_getElem
  · rw [Array.length_toList]; show (s.extract k (k + 1)).size = _; rw [ByteArray.size_extract]; simp; omega
  · intro i h1 h2
    simp at h2; subst h2
    have : (s.extract k (k + 1)).data.toList[0] = (s.extract k (k + 1))[0]'(by rw [ByteArray.size_extract]; omega) := rfl
    rw [this, ByteArray.getElem_extract]; simp

set_option maxRecDepth 1000000 in
set_option maxHeartbeats 4000000 in
theorem rquote_any (s : ByteArray) (w : World) (hs : s.size ≤ 8796093022208) (ha : 1 < w.heap.size) (hb : 2 < w.heap.size) (hT : Lib.Utf8Tabs 1 2 w) :
    Calls Tryd.prog 7 #[.string s] w fun e w' => e = .returned (.string ⟨(qt s).toArray⟩) ∧ Below w.heap.size w w' := by
  obtain ⟨Q, hQ⟩ : ∃ Q, 34 :: qs s s.size 0 = Q := ⟨_, rfl⟩
  have HQ : Hid (34 :: qs s s.size 0 = Q) := hQ
  clear hQ
  have HT : Hid (∀ w', Below w.heap.size w w' → Lib.Utf8Tabs 1 2 w') := fun w' h => tabs_below hT h ha hb
  clear hT
  go_enter Tryd.func7, Tryd.ntmps7
  go_wp2
  go_loopg [4, 5] s.size (fun gk so si wr => ∃ (k n : Nat) (T : ByteArray), gk = s.size - k ∧ k ≤ s.size ∧ s.size - k ≤ n ∧ si = .int .i64 (k : Int) ∧ so = .string T ∧ T.data.toList ++ qs s n k = Q ∧ T.size ≤ 1 + 4 * k ∧ Below w.heap.size w wr)
  case atStart => exact ⟨0, s.size, ⟨#[34]⟩, by omega, Nat.zero_le _, by omega, rfl, rfl, HQ.out, by decide, by go_grown⟩
  case round =>
    obtain ⟨k, n, T, rfl, hk, hkn, rfl, rfl, hlq, hll, hbel⟩ := hrel
    have HB : Hid (Below w.heap.size w wr) := hbel
    have HLQ : Hid (T.data.toList ++ qs s n k = Q) := hlq
    clear hbel hlq
    by_cases hlt : k < s.size
    · have hlt' : (k : Int) < (s.size : Int) := by omega
      obtain ⟨f1, f2, f3, f4⟩ := dec_facts s k hlt
      obtain ⟨m, hm, hqm⟩ := qs_step s n k hkn hlt
      have hln := q1_len s k hlt
      have HN : Hid (T.data.toList ++ q1 s k hlt ++ qs s m (k + wd s k) = Q) := by unfold Hid; rw [← HLQ.out, hqm, List.append_assoc]
      clear hqm
      have HD : Hid (Calls Tryd.prog 12 #[.string (s.extract k s.size)] wr fun e w' => e = .returned (.tuple #[.int .i32 (rn s k : Nat), .int .i64 (wd s k : Nat)]) ∧ Below wr.heap.size wr w') := Tryd.utf8_DecodeRuneInString (s.extract k s.size) wr (HT.out wr HB.out)
      have HE1 := ext1 s k hlt
      obtain ⟨c, hc⟩ : ∃ c, s[k]'hlt = c := ⟨_, rfl⟩
      have HX : q1 s k hlt = if 1 < wd s k then (s.extract k (k + wd s k)).data.toList else qe c := by unfold q1; rw [hc]
      rw [hc] at f3 f4 HE1
      have hc8 := c.toNat_lt
      obtain ⟨W, hW⟩ : ∃ W, wd s k = W := ⟨_, rfl⟩
      obtain ⟨R, hR⟩ : ∃ R, rn s k = R := ⟨_, rfl⟩
      obtain ⟨q, hq⟩ : ∃ q, q1 s k hlt = q := ⟨_, rfl⟩
      rw [hW] at f1 f2 f3 f4 hm hln HN HD HX
      rw [hR] at HD f3 f4
      rw [hq] at HN hln HX
      clear hW hR hq
      have HDk : Hid (Calls Tryd.prog 12 #[.string (s.extract k s.size)] wr fun e w' => e = .returned (.tuple #[.int .i32 (R : Nat), .int .i64 (W : Nat)]) ∧ Below wr.heap.size wr w') := HD
      clear HD
      by_cases h1 : 1 < W
      · have hq : q = (s.extract k (k + W)).data.toList := by rw [HX, if_pos h1]
        have hsz : (s.extract k (k + W)).size = W := by rw [ByteArray.size_extract]; omega
        have c128 : 128 ≤ c.toNat := by
          by_cases h : c.toNat < 128
          · have := (f3 h).1; omega
          · omega
        have HQq : Hid (q = (s.extract k (k + W)).data.toList) := hq
        have t1 : (7 : Int) ≤ (c.toNat : Int) := by omega
        have t2 : ¬ (c.toNat : Int) ≤ 13 := by omega
        have t3 : ((c.toNat : Int) == 34) = false := by rw [beq_eq_false_iff_ne]; omega
        have t4 : ((c.toNat : Int) == 92) = false := by rw [beq_eq_false_iff_ne]; omega
        have t5 : ¬ (c.toNat : Int) < 32 := by omega
        have t6 : ((c.toNat : Int) == 127) = false := by rw [beq_eq_false_iff_ne]; omega
        have t7 : ((W : Int) == 1) = false := by rw [beq_eq_false_iff_ne]; omega
        have tz : ¬ (9223372036854775807 < T.size + W) := by omega
        clear HX f3 f4 hq
        by_cases hR : R = 65533
        · have t8 : ((R : Int) == 65533) = true := by rw [hR]; rfl
          clear hR
          go_wp2_with (go_at_call 12; (with_reducible refine HDk.out.mono ?_); rintro e w1 ⟨rfl, hb1⟩; have HB1 : Hid (Below w.heap.size w w1) := HB.out.trans (hb1.mono HB.out.size); clear hb1)
          go_roundg (s.size - (k + W))
          case measure => omega
          case rel =>
            have hU : (s.extract k (k + W)).data.toList = q := HQq.out.symm
            refine ⟨k + W, m, T ++ (s.extract k (k + W)), rfl, by omega, hm, by go_num, rfl, ?_, ?_, HB1.out⟩
            · rw [app_list, hU]; exact HN.out
            · rw [ByteArray.size_append]; have : (s.extract k (k + W)).size = q.length := by rw [← hU, Array.length_toList]; rfl
              omega
        · have t8 : ((R : Int) == 65533) = false := by rw [beq_eq_false_iff_ne]; omega
          clear hR
          go_wp2_with (go_at_call 12; (with_reducible refine HDk.out.mono ?_); rintro e w1 ⟨rfl, hb1⟩; have HB1 : Hid (Below w.heap.size w w1) := HB.out.trans (hb1.mono HB.out.size); clear hb1)
          go_roundg (s.size - (k + W))
          case measure => omega
          case rel =>
            have hU : (s.extract k (k + W)).data.toList = q := HQq.out.symm
            refine ⟨k + W, m, T ++ (s.extract k (k + W)), rfl, by omega, hm, by go_num, rfl, ?_, ?_, HB1.out⟩
            · rw [app_list, hU]; exact HN.out
            · rw [ByteArray.size_append]; have : (s.extract k (k + W)).size = q.length := by rw [← hU, Array.length_toList]; rfl
              omega
      · have hW1 : W = 1 := by omega
        subst hW1
        have hq : q = qe c := by rw [HX, if_neg h1]
        have HQq : Hid (q = qe c) := hq
        clear HX hq h1
        by_cases hb7 : c = 7
        · have hq : q = [92, 97] := by rw [HQq.out, hb7]; rfl
          have HQ2 : Hid (q = [92, 97]) := hq
          have t0 : (c.toNat : Int) = 7 := by rw [hb7]; rfl
          have tz : ¬ (9223372036854775807 < T.size + 2) := by omega
          clear HQq f3 f4 hq hb7
          go_wp2_with (go_at_call 12; (with_reducible refine HDk.out.mono ?_); rintro e w1 ⟨rfl, hb1⟩; have HB1 : Hid (Below w.heap.size w w1) := HB.out.trans (hb1.mono HB.out.size); clear hb1)
          go_roundg (s.size - (k + 1))
          case measure => omega
          case rel =>
            have hU : (ByteArray.mk #[92] ++ (ByteArray.mk #[97, 98, 116, 110, 118, 102, 114]).extract 0 1).data.toList = q := by rw [HQ2.out, app_list]; first | rfl | decide
            refine ⟨k + 1, m, T ++ (ByteArray.mk #[92] ++ (ByteArray.mk #[97, 98, 116, 110, 118, 102, 114]).extract 0 1), rfl, by omega, hm, by go_num, rfl, ?_, ?_, HB1.out⟩
            · rw [app_list, hU]; exact HN.out
            · rw [ByteArray.size_append]; have : (ByteArray.mk #[92] ++ (ByteArray.mk #[97, 98, 116, 110, 118, 102, 114]).extract 0 1).size = q.length := by rw [← hU, Array.length_toList]; rfl
              omega
        by_cases hb8 : c = 8
        · have hq : q = [92, 98] := by rw [HQq.out, hb8]; rfl
          have HQ2 : Hid (q = [92, 98]) := hq
          have t0 : (c.toNat : Int) = 8 := by rw [hb8]; rfl
          have tz : ¬ (9223372036854775807 < T.size + 2) := by omega
          clear HQq f3 f4 hq hb8
          go_wp2_with (go_at_call 12; (with_reducible refine HDk.out.mono ?_); rintro e w1 ⟨rfl, hb1⟩; have HB1 : Hid (Below w.heap.size w w1) := HB.out.trans (hb1.mono HB.out.size); clear hb1)
          go_roundg (s.size - (k + 1))
          case measure => omega
          case rel =>
            have hU : (ByteArray.mk #[92] ++ (ByteArray.mk #[97, 98, 116, 110, 118, 102, 114]).extract 1 2).data.toList = q := by rw [HQ2.out, app_list]; first | rfl | decide
            refine ⟨k + 1, m, T ++ (ByteArray.mk #[92] ++ (ByteArray.mk #[97, 98, 116, 110, 118, 102, 114]).extract 1 2), rfl, by omega, hm, by go_num, rfl, ?_, ?_, HB1.out⟩
            · rw [app_list, hU]; exact HN.out
            · rw [ByteArray.size_append]; have : (ByteArray.mk #[92] ++ (ByteArray.mk #[97, 98, 116, 110, 118, 102, 114]).extract 1 2).size = q.length := by rw [← hU, Array.length_toList]; rfl
              omega
        by_cases hb9 : c = 9
        · have hq : q = [92, 116] := by rw [HQq.out, hb9]; rfl
          have HQ2 : Hid (q = [92, 116]) := hq
          have t0 : (c.toNat : Int) = 9 := by rw [hb9]; rfl
          have tz : ¬ (9223372036854775807 < T.size + 2) := by omega
          clear HQq f3 f4 hq hb9
          go_wp2_with (go_at_call 12; (with_reducible refine HDk.out.mono ?_); rintro e w1 ⟨rfl, hb1⟩; have HB1 : Hid (Below w.heap.size w w1) := HB.out.trans (hb1.mono HB.out.size); clear hb1)
          go_roundg (s.size - (k + 1))
          case measure => omega
          case rel =>
            have hU : (ByteArray.mk #[92] ++ (ByteArray.mk #[97, 98, 116, 110, 118, 102, 114]).extract 2 3).data.toList = q := by rw [HQ2.out, app_list]; first | rfl | decide
            refine ⟨k + 1, m, T ++ (ByteArray.mk #[92] ++ (ByteArray.mk #[97, 98, 116, 110, 118, 102, 114]).extract 2 3), rfl, by omega, hm, by go_num, rfl, ?_, ?_, HB1.out⟩
            · rw [app_list, hU]; exact HN.out
            · rw [ByteArray.size_append]; have : (ByteArray.mk #[92] ++ (ByteArray.mk #[97, 98, 116, 110, 118, 102, 114]).extract 2 3).size = q.length := by rw [← hU, Array.length_toList]; rfl
              omega
        by_cases hb10 : c = 10
        · have hq : q = [92, 110] := by rw [HQq.out, hb10]; rfl
          have HQ2 : Hid (q = [92, 110]) := hq
          have t0 : (c.toNat : Int) = 10 := by rw [hb10]; rfl
          have tz : ¬ (9223372036854775807 < T.size + 2) := by omega
          clear HQq f3 f4 hq hb10
          go_wp2_with (go_at_call 12; (with_reducible refine HDk.out.mono ?_); rintro e w1 ⟨rfl, hb1⟩; have HB1 : Hid (Below w.heap.size w w1) := HB.out.trans (hb1.mono HB.out.size); clear hb1)
          go_roundg (s.size - (k + 1))
          case measure => omega
          case rel =>
            have hU : (ByteArray.mk #[92] ++ (ByteArray.mk #[97, 98, 116, 110, 118, 102, 114]).extract 3 4).data.toList = q := by rw [HQ2.out, app_list]; first | rfl | decide
            refine ⟨k + 1, m, T ++ (ByteArray.mk #[92] ++ (ByteArray.mk #[97, 98, 116, 110, 118, 102, 114]).extract 3 4), rfl, by omega, hm, by go_num, rfl, ?_, ?_, HB1.out⟩
            · rw [app_list, hU]; exact HN.out
            · rw [ByteArray.size_append]; have : (ByteArray.mk #[92] ++ (ByteArray.mk #[97, 98, 116, 110, 118, 102, 114]).extract 3 4).size = q.length := by rw [← hU, Array.length_toList]; rfl
              omega
        by_cases hb11 : c = 11
        · have hq : q = [92, 118] := by rw [HQq.out, hb11]; rfl
          have HQ2 : Hid (q = [92, 118]) := hq
          have t0 : (c.toNat : Int) = 11 := by rw [hb11]; rfl
          have tz : ¬ (9223372036854775807 < T.size + 2) := by omega
          clear HQq f3 f4 hq hb11
          go_wp2_with (go_at_call 12; (with_reducible refine HDk.out.mono ?_); rintro e w1 ⟨rfl, hb1⟩; have HB1 : Hid (Below w.heap.size w w1) := HB.out.trans (hb1.mono HB.out.size); clear hb1)
          go_roundg (s.size - (k + 1))
          case measure => omega
          case rel =>
            have hU : (ByteArray.mk #[92] ++ (ByteArray.mk #[97, 98, 116, 110, 118, 102, 114]).extract 4 5).data.toList = q := by rw [HQ2.out, app_list]; first | rfl | decide
            refine ⟨k + 1, m, T ++ (ByteArray.mk #[92] ++ (ByteArray.mk #[97, 98, 116, 110, 118, 102, 114]).extract 4 5), rfl, by omega, hm, by go_num, rfl, ?_, ?_, HB1.out⟩
            · rw [app_list, hU]; exact HN.out
            · rw [ByteArray.size_append]; have : (ByteArray.mk #[92] ++ (ByteArray.mk #[97, 98, 116, 110, 118, 102, 114]).extract 4 5).size = q.length := by rw [← hU, Array.length_toList]; rfl
              omega
        by_cases hb12 : c = 12
        · have hq : q = [92, 102] := by rw [HQq.out, hb12]; rfl
          have HQ2 : Hid (q = [92, 102]) := hq
          have t0 : (c.toNat : Int) = 12 := by rw [hb12]; rfl
          have tz : ¬ (9223372036854775807 < T.size + 2) := by omega
          clear HQq f3 f4 hq hb12
          go_wp2_with (go_at_call 12; (with_reducible refine HDk.out.mono ?_); rintro e w1 ⟨rfl, hb1⟩; have HB1 : Hid (Below w.heap.size w w1) := HB.out.trans (hb1.mono HB.out.size); clear hb1)
          go_roundg (s.size - (k + 1))
          case measure => omega
          case rel =>
            have hU : (ByteArray.mk #[92] ++ (ByteArray.mk #[97, 98, 116, 110, 118, 102, 114]).extract 5 6).data.toList = q := by rw [HQ2.out, app_list]; first | rfl | decide
            refine ⟨k + 1, m, T ++ (ByteArray.mk #[92] ++ (ByteArray.mk #[97, 98, 116, 110, 118, 102, 114]).extract 5 6), rfl, by omega, hm, by go_num, rfl, ?_, ?_, HB1.out⟩
            · rw [app_list, hU]; exact HN.out
            · rw [ByteArray.size_append]; have : (ByteArray.mk #[92] ++ (ByteArray.mk #[97, 98, 116, 110, 118, 102, 114]).extract 5 6).size = q.length := by rw [← hU, Array.length_toList]; rfl
              omega
        by_cases hb13 : c = 13
        · have hq : q = [92, 114] := by rw [HQq.out, hb13]; rfl
          have HQ2 : Hid (q = [92, 114]) := hq
          have t0 : (c.toNat : Int) = 13 := by rw [hb13]; rfl
          have tz : ¬ (9223372036854775807 < T.size + 2) := by omega
          clear HQq f3 f4 hq hb13
          go_wp2_with (go_at_call 12; (with_reducible refine HDk.out.mono ?_); rintro e w1 ⟨rfl, hb1⟩; have HB1 : Hid (Below w.heap.size w w1) := HB.out.trans (hb1.mono HB.out.size); clear hb1)
          go_roundg (s.size - (k + 1))
          case measure => omega
          case rel =>
            have hU : (ByteArray.mk #[92] ++ (ByteArray.mk #[97, 98, 116, 110, 118, 102, 114]).extract 6 7).data.toList = q := by rw [HQ2.out, app_list]; first | rfl | decide
            refine ⟨k + 1, m, T ++ (ByteArray.mk #[92] ++ (ByteArray.mk #[97, 98, 116, 110, 118, 102, 114]).extract 6 7), rfl, by omega, hm, by go_num, rfl, ?_, ?_, HB1.out⟩
            · rw [app_list, hU]; exact HN.out
            · rw [ByteArray.size_append]; have : (ByteArray.mk #[92] ++ (ByteArray.mk #[97, 98, 116, 110, 118, 102, 114]).extract 6 7).size = q.length := by rw [← hU, Array.length_toList]; rfl
              omega
        by_cases hb34 : c = 34
        · have hq : q = [92, c] := by rw [HQq.out, hb34]; rfl
          have HQ2 : Hid (q = [92, c]) := hq
          have t1 : (7 : Int) ≤ (c.toNat : Int) := by rw [hb34]; decide
          have t2 : ¬ (c.toNat : Int) ≤ 13 := by rw [hb34]; decide
          have t3 : ((c.toNat : Int) == 34) = true := by rw [hb34]; rfl
          have hsz : (s.extract k (k + 1)).size = 1 := by rw [ByteArray.size_extract]; omega
          have tz : ¬ (9223372036854775807 < T.size + 2) := by omega
          clear HQq f3 f4 hq hb34
          go_wp2_with (go_at_call 12; (with_reducible refine HDk.out.mono ?_); rintro e w1 ⟨rfl, hb1⟩; have HB1 : Hid (Below w.heap.size w w1) := HB.out.trans (hb1.mono HB.out.size); clear hb1)
          go_roundg (s.size - (k + 1))
          case measure => omega
          case rel =>
            have hU : (ByteArray.mk #[92] ++ s.extract k (k + 1)).data.toList = q := by rw [app_list, HE1, HQ2.out]; rfl
            refine ⟨k + 1, m, T ++ (ByteArray.mk #[92] ++ s.extract k (k + 1)), rfl, by omega, hm, by go_num, rfl, ?_, ?_, HB1.out⟩
            · rw [app_list, hU]; exact HN.out
            · rw [ByteArray.size_append]; have : (ByteArray.mk #[92] ++ s.extract k (k + 1)).size = q.length := by rw [← hU, Array.length_toList]; rfl
              omega
        by_cases hb92 : c = 92
        · have hq : q = [92, c] := by rw [HQq.out, hb92]; rfl
          have HQ2 : Hid (q = [92, c]) := hq
          have t1 : (7 : Int) ≤ (c.toNat : Int) := by rw [hb92]; decide
          have t2 : ¬ (c.toNat : Int) ≤ 13 := by rw [hb92]; decide
          have t3 : ((c.toNat : Int) == 34) = false := by rw [hb92]; rfl
          have t4 : ((c.toNat : Int) == 92) = true := by rw [hb92]; rfl
          have hsz : (s.extract k (k + 1)).size = 1 := by rw [ByteArray.size_extract]; omega
          have tz : ¬ (9223372036854775807 < T.size + 2) := by omega
          clear HQq f3 f4 hq hb92
          go_wp2_with (go_at_call 12; (with_reducible refine HDk.out.mono ?_); rintro e w1 ⟨rfl, hb1⟩; have HB1 : Hid (Below w.heap.size w w1) := HB.out.trans (hb1.mono HB.out.size); clear hb1)
          go_roundg (s.size - (k + 1))
          case measure => omega
          case rel =>
            have hU : (ByteArray.mk #[92] ++ s.extract k (k + 1)).data.toList = q := by rw [app_list, HE1, HQ2.out]; rfl
            refine ⟨k + 1, m, T ++ (ByteArray.mk #[92] ++ s.extract k (k + 1)), rfl, by omega, hm, by go_num, rfl, ?_, ?_, HB1.out⟩
            · rw [app_list, hU]; exact HN.out
            · rw [ByteArray.size_append]; have : (ByteArray.mk #[92] ++ s.extract k (k + 1)).size = q.length := by rw [← hU, Array.length_toList]; rfl
              omega
        have b34 : c.toNat ≠ 34 := fun h => hb34 (UInt8.toNat_inj.1 (by rw [h]; rfl))
        have b92 : c.toNat ≠ 92 := fun h => hb92 (UInt8.toNat_inj.1 (by rw [h]; rfl))
        have b7 : c.toNat ≠ 7 := fun h => hb7 (UInt8.toNat_inj.1 (by rw [h]; rfl))
        have b8 : c.toNat ≠ 8 := fun h => hb8 (UInt8.toNat_inj.1 (by rw [h]; rfl))
        have b9 : c.toNat ≠ 9 := fun h => hb9 (UInt8.toNat_inj.1 (by rw [h]; rfl))
        have b10 : c.toNat ≠ 10 := fun h => hb10 (UInt8.toNat_inj.1 (by rw [h]; rfl))
        have b11 : c.toNat ≠ 11 := fun h => hb11 (UInt8.toNat_inj.1 (by rw [h]; rfl))
        have b12 : c.toNat ≠ 12 := fun h => hb12 (UInt8.toNat_inj.1 (by rw [h]; rfl))
        have b13 : c.toNat ≠ 13 := fun h => hb13 (UInt8.toNat_inj.1 (by rw [h]; rfl))
        have hqe : qe c = if 32 ≤ c.toNat ∧ c.toNat ≤ 126 then [c] else [92, 120, hx (c.toNat / 16), hx (c.toNat % 16)] := by
          unfold qe
          rw [if_neg hb7, if_neg hb8, if_neg hb12, if_neg hb10, if_neg hb13, if_neg hb9, if_neg hb11, if_neg (fun h => h.elim hb34 hb92)]
        clear hb7 hb8 hb9 hb10 hb11 hb12 hb13 hb34 hb92
        have t3 : ((c.toNat : Int) == 34) = false := by rw [beq_eq_false_iff_ne]; omega
        have t4 : ((c.toNat : Int) == 92) = false := by rw [beq_eq_false_iff_ne]; omega
        by_cases hp : 32 ≤ c.toNat ∧ c.toNat ≤ 126
        · have hq : q = (s.extract k (k + 1)).data.toList := by rw [HQq.out, hqe, if_pos hp, HE1]
          have HQ2 : Hid (q = (s.extract k (k + 1)).data.toList) := hq
          have hRc : R = c.toNat := (f3 (by omega)).2
          have t1 : (7 : Int) ≤ (c.toNat : Int) := by omega
          have t2 : ¬ (c.toNat : Int) ≤ 13 := by omega
          have t5 : ¬ (c.toNat : Int) < 32 := by omega
          have t6 : ((c.toNat : Int) == 127) = false := by rw [beq_eq_false_iff_ne]; omega
          have t8 : ((R : Int) == 65533) = false := by rw [beq_eq_false_iff_ne]; omega
          have hsz : (s.extract k (k + 1)).size = 1 := by rw [ByteArray.size_extract]; omega
          have tz : ¬ (9223372036854775807 < T.size + 1) := by omega
          clear HQq f3 f4 hq hqe hp b34 b92 b7 b8 b9 b10 b11 b12 b13 hRc
          go_wp2_with (go_at_call 12; (with_reducible refine HDk.out.mono ?_); rintro e w1 ⟨rfl, hb1⟩; have HB1 : Hid (Below w.heap.size w w1) := HB.out.trans (hb1.mono HB.out.size); clear hb1)
          go_roundg (s.size - (k + 1))
          case measure => omega
          case rel =>
            have hU : (s.extract k (k + 1)).data.toList = q := HQ2.out.symm
            refine ⟨k + 1, m, T ++ (s.extract k (k + 1)), rfl, by omega, hm, by go_num, rfl, ?_, ?_, HB1.out⟩
            · rw [app_list, hU]; exact HN.out
            · rw [ByteArray.size_append]; have : (s.extract k (k + 1)).size = q.length := by rw [← hU, Array.length_toList]; rfl
              omega
        · have hq : q = [92, 120, hx (c.toNat / 16), hx (c.toNat % 16)] := by rw [HQq.out, hqe, if_neg hp]
          obtain ⟨d, hdd⟩ : ∃ d, c.toNat / 16 = d := ⟨_, rfl⟩
          obtain ⟨r, hrd⟩ : ∃ r, c.toNat % 16 = r := ⟨_, rfl⟩
          have hd16 : d < 16 := by omega
          have hr16 : r < 16 := by omega
          have hd : (c.toNat : Int) / 16 = (d : Int) := by omega
          have hr : (c.toNat : Int) % 16 = (r : Int) := by omega
          rw [hdd, hrd] at hq
          have HQ2 : Hid (q = [92, 120, hx d, hx r]) := hq
          have tz : ¬ (9223372036854775807 < T.size + 4) := by omega
          have hz1 : ((ByteArray.mk #[48, 49, 50, 51, 52, 53, 54, 55, 56, 57, 97, 98, 99, 100, 101, 102]).extract d (d + 1)).size = 1 := by rw [ByteArray.size_extract]; show min (d + 1) 16 - d = 1; omega
          have hz2 : ((ByteArray.mk #[48, 49, 50, 51, 52, 53, 54, 55, 56, 57, 97, 98, 99, 100, 101, 102]).extract r (r + 1)).size = 1 := by rw [ByteArray.size_extract]; show min (r + 1) 16 - r = 1; omega
          have hd' : (d : Int) < 16 := by omega
          have hr' : (r : Int) < 16 := by omega
          have HXd : Hid (((ByteArray.mk #[48, 49, 50, 51, 52, 53, 54, 55, 56, 57, 97, 98, 99, 100, 101, 102]).extract d (d + 1)).data.toList = [hx d]) := by unfold Hid; rw [ext1 (ByteArray.mk #[48, 49, 50, 51, 52, 53, 54, 55, 56, 57, 97, 98, 99, 100, 101, 102]) d hd16, hx_at d hd16]
          have HXr : Hid (((ByteArray.mk #[48, 49, 50, 51, 52, 53, 54, 55, 56, 57, 97, 98, 99, 100, 101, 102]).extract r (r + 1)).data.toList = [hx r]) := by unfold Hid; rw [ext1 (ByteArray.mk #[48, 49, 50, 51, 52, 53, 54, 55, 56, 57, 97, 98, 99, 100, 101, 102]) r hr16, hx_at r hr16]
          clear HQq hq hqe hdd hrd
          by_cases hlo : c.toNat < 7
          · have t1 : ¬ (7 : Int) ≤ (c.toNat : Int) := by omega
            have t5 : (c.toNat : Int) < 32 := by omega
            clear f3 f4 hp b34 b92 b7 b8 b9 b10 b11 b12 b13
            go_wp2_with (go_at_call 12; (with_reducible refine HDk.out.mono ?_); rintro e w1 ⟨rfl, hb1⟩; have HB1 : Hid (Below w.heap.size w w1) := HB.out.trans (hb1.mono HB.out.size); clear hb1)
            go_quiet (fail)
            go_wp2
            go_roundg (s.size - (k + 1))
            case measure => omega
            case rel =>
              have hU : (ByteArray.mk #[92, 120] ++ (ByteArray.mk #[48, 49, 50, 51, 52, 53, 54, 55, 56, 57, 97, 98, 99, 100, 101, 102]).extract d (d + 1) ++ (ByteArray.mk #[48, 49, 50, 51, 52, 53, 54, 55, 56, 57, 97, 98, 99, 100, 101, 102]).extract r (r + 1)).data.toList = q := by rw [app_list, app_list, HXd.out, HXr.out, HQ2.out]; rfl
              refine ⟨k + 1, m, T ++ (ByteArray.mk #[92, 120] ++ (ByteArray.mk #[48, 49, 50, 51, 52, 53, 54, 55, 56, 57, 97, 98, 99, 100, 101, 102]).extract d (d + 1) ++ (ByteArray.mk #[48, 49, 50, 51, 52, 53, 54, 55, 56, 57, 97, 98, 99, 100, 101, 102]).extract r (r + 1)), rfl, by omega, hm, by go_num, rfl, ?_, ?_, HB1.out.trans ⟨rfl, rfl, rfl, Nat.le_refl _, fun _ _ => rfl⟩⟩
              · rw [app_list, hU]; exact HN.out
              · rw [ByteArray.size_append]; have : (ByteArray.mk #[92, 120] ++ (ByteArray.mk #[48, 49, 50, 51, 52, 53, 54, 55, 56, 57, 97, 98, 99, 100, 101, 102]).extract d (d + 1) ++ (ByteArray.mk #[48, 49, 50, 51, 52, 53, 54, 55, 56, 57, 97, 98, 99, 100, 101, 102]).extract r (r + 1)).size = q.length := by rw [← hU, Array.length_toList]; rfl
                omega
          have t1 : (7 : Int) ≤ (c.toNat : Int) := by omega
          have t2 : ¬ (c.toNat : Int) ≤ 13 := by omega
          by_cases hl2 : c.toNat < 32
          · have t5 : (c.toNat : Int) < 32 := by omega
            clear f3 f4 hp b34 b92 b7 b8 b9 b10 b11 b12 b13
            go_wp2_with (go_at_call 12; (with_reducible refine HDk.out.mono ?_); rintro e w1 ⟨rfl, hb1⟩; have HB1 : Hid (Below w.heap.size w w1) := HB.out.trans (hb1.mono HB.out.size); clear hb1)
            go_quiet (fail)
            go_wp2
            go_roundg (s.size - (k + 1))
            case measure => omega
            case rel =>
              have hU : (ByteArray.mk #[92, 120] ++ (ByteArray.mk #[48, 49, 50, 51, 52, 53, 54, 55, 56, 57, 97, 98, 99, 100, 101, 102]).extract d (d + 1) ++ (ByteArray.mk #[48, 49, 50, 51, 52, 53, 54, 55, 56, 57, 97, 98, 99, 100, 101, 102]).extract r (r + 1)).data.toList = q := by rw [app_list, app_list, HXd.out, HXr.out, HQ2.out]; rfl
              refine ⟨k + 1, m, T ++ (ByteArray.mk #[92, 120] ++ (ByteArray.mk #[48, 49, 50, 51, 52, 53, 54, 55, 56, 57, 97, 98, 99, 100, 101, 102]).extract d (d + 1) ++ (ByteArray.mk #[48, 49, 50, 51, 52, 53, 54, 55, 56, 57, 97, 98, 99, 100, 101, 102]).extract r (r + 1)), rfl, by omega, hm, by go_num, rfl, ?_, ?_, HB1.out.trans ⟨rfl, rfl, rfl, Nat.le_refl _, fun _ _ => rfl⟩⟩
              · rw [app_list, hU]; exact HN.out
              · rw [ByteArray.size_append]; have : (ByteArray.mk #[92, 120] ++ (ByteArray.mk #[48, 49, 50, 51, 52, 53, 54, 55, 56, 57, 97, 98, 99, 100, 101, 102]).extract d (d + 1) ++ (ByteArray.mk #[48, 49, 50, 51, 52, 53, 54, 55, 56, 57, 97, 98, 99, 100, 101, 102]).extract r (r + 1)).size = q.length := by rw [← hU, Array.length_toList]; rfl
                omega
          have t5 : ¬ (c.toNat : Int) < 32 := by omega
          by_cases h127 : c.toNat = 127
          · have t6 : ((c.toNat : Int) == 127) = true := by rw [h127]; rfl
            clear f3 f4 hp b34 b92 b7 b8 b9 b10 b11 b12 b13 h127
            go_wp2_with (go_at_call 12; (with_reducible refine HDk.out.mono ?_); rintro e w1 ⟨rfl, hb1⟩; have HB1 : Hid (Below w.heap.size w w1) := HB.out.trans (hb1.mono HB.out.size); clear hb1)
            go_quiet (fail)
            go_wp2
            go_roundg (s.size - (k + 1))
            case measure => omega
            case rel =>
              have hU : (ByteArray.mk #[92, 120] ++ (ByteArray.mk #[48, 49, 50, 51, 52, 53, 54, 55, 56, 57, 97, 98, 99, 100, 101, 102]).extract d (d + 1) ++ (ByteArray.mk #[48, 49, 50, 51, 52, 53, 54, 55, 56, 57, 97, 98, 99, 100, 101, 102]).extract r (r + 1)).data.toList = q := by rw [app_list, app_list, HXd.out, HXr.out, HQ2.out]; rfl
              refine ⟨k + 1, m, T ++ (ByteArray.mk #[92, 120] ++ (ByteArray.mk #[48, 49, 50, 51, 52, 53, 54, 55, 56, 57, 97, 98, 99, 100, 101, 102]).extract d (d + 1) ++ (ByteArray.mk #[48, 49, 50, 51, 52, 53, 54, 55, 56, 57, 97, 98, 99, 100, 101, 102]).extract r (r + 1)), rfl, by omega, hm, by go_num, rfl, ?_, ?_, HB1.out.trans ⟨rfl, rfl, rfl, Nat.le_refl _, fun _ _ => rfl⟩⟩
              · rw [app_list, hU]; exact HN.out
              · rw [ByteArray.size_append]; have : (ByteArray.mk #[92, 120] ++ (ByteArray.mk #[48, 49, 50, 51, 52, 53, 54, 55, 56, 57, 97, 98, 99, 100, 101, 102]).extract d (d + 1) ++ (ByteArray.mk #[48, 49, 50, 51, 52, 53, 54, 55, 56, 57, 97, 98, 99, 100, 101, 102]).extract r (r + 1)).size = q.length := by rw [← hU, Array.length_toList]; rfl
                omega
          have t6 : ((c.toNat : Int) == 127) = false := by rw [beq_eq_false_iff_ne]; omega
          have hRb : R = 65533 := f4 (by omega) rfl
          have t8 : ((R : Int) == 65533) = true := by rw [hRb]; rfl
          clear f3 f4 hp b34 b92 b7 b8 b9 b10 b11 b12 b13 h127 hRb
          go_wp2_with (go_at_call 12; (with_reducible refine HDk.out.mono ?_); rintro e w1 ⟨rfl, hb1⟩; have HB1 : Hid (Below w.heap.size w w1) := HB.out.trans (hb1.mono HB.out.size); clear hb1)
          go_quiet (fail)
          go_wp2
          go_roundg (s.size - (k + 1))
          case measure => omega
          case rel =>
            have hU : (ByteArray.mk #[92, 120] ++ (ByteArray.mk #[48, 49, 50, 51, 52, 53, 54, 55, 56, 57, 97, 98, 99, 100, 101, 102]).extract d (d + 1) ++ (ByteArray.mk #[48, 49, 50, 51, 52, 53, 54, 55, 56, 57, 97, 98, 99, 100, 101, 102]).extract r (r + 1)).data.toList = q := by rw [app_list, app_list, HXd.out, HXr.out, HQ2.out]; rfl
            refine ⟨k + 1, m, T ++ (ByteArray.mk #[92, 120] ++ (ByteArray.mk #[48, 49, 50, 51, 52, 53, 54, 55, 56, 57, 97, 98, 99, 100, 101, 102]).extract d (d + 1) ++ (ByteArray.mk #[48, 49, 50, 51, 52, 53, 54, 55, 56, 57, 97, 98, 99, 100, 101, 102]).extract r (r + 1)), rfl, by omega, hm, by go_num, rfl, ?_, ?_, HB1.out.trans ⟨rfl, rfl, rfl, Nat.le_refl _, fun _ _ => rfl⟩⟩
            · rw [app_list, hU]; exact HN.out
            · rw [ByteArray.size_append]; have : (ByteArray.mk #[92, 120] ++ (ByteArray.mk #[48, 49, 50, 51, 52, 53, 54, 55, 56, 57, 97, 98, 99, 100, 101, 102]).extract d (d + 1) ++ (ByteArray.mk #[48, 49, 50, 51, 52, 53, 54, 55, 56, 57, 97, 98, 99, 100, 101, 102]).extract r (r + 1)).size = q.length := by rw [← hU, Array.length_toList]; rfl
              omega
    · have hge : ¬ (k : Int) < (s.size : Int) := by omega
      have HZ : Hid (T.data.toList = Q) := by unfold Hid; rw [← HLQ.out, qs_end s n k hlt]; simp
      have tz : ¬ (9223372036854775807 < T.size + 1) := by omega
      have HV : Hid (T ++ ByteArray.mk #[34] = ByteArray.mk (qt s).toArray) := by
        unfold Hid
        apply ByteArray.ext
        apply Array.ext'
        rw [app_list, HZ.out, ← HQ.out]
        simp [qt]
      go_wp2
      go_ret
      refine ⟨?_, HB.out⟩
      rw [← HV.out]; rfl
end Go.Proofs.YtlgddkkpngfmfaaDoor
