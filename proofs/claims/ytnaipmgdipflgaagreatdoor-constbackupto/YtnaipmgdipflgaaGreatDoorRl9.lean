import Derived.Test.YtnaipmgdipflgaaGreatDoorRl8
import Derived.Test.YtnaipmgdipflgaaGreatDoorLmp
import Derived.Test.YtnaipmgdipflgaaGreatDoorRl2
import Derived.Test.YtnaipmgdipflgaaGreatDoorLy6
namespace Go.Proofs.YtnaipmgdipflgaaGreatDoor
open Go.ChangeShapes Go.WideShapes Go.ChangeAt Go.RowKit
set_option linter.unusedVariables false
set_option linter.unusedSimpArgs false

set_option maxRecDepth 1000000 in
set_option maxHeartbeats 8000000 in
theorem rquoted_96 (s : ByteArray) (p : Nat) (hs : s.size ≤ 4294967280) (hp : p < s.size) (hc : (s[p]'hp).toNat = 96) (w : World) :
    Calls Tryz.prog 66 #[.string s, .int .i64 (p : Int)] w fun e w' => e = .returned (pcR (quP s p)) ∧ Below w.heap.size w w' := by
  have hQ : quP s p = if fnd s 96 (p + 1) < s.size then .ok 5 (fnd s 96 (p + 1) + 1) else .no 22 p := by unfold quP; rw [if_pos (by rw [bt_in hp, hc])]
  rw [hQ]
  obtain ⟨F, hF⟩ : ∃ F, fnd s 96 (p + 1) = F := ⟨_, rfl⟩
  have HF : Hid (fnd s 96 (p + 1) = F) := hF
  rw [hF]
  have hp' : (p : Int) < (s.size : Int) := by omega
  obtain ⟨V, hV⟩ : ∃ V, pcR (if F < s.size then .ok 5 (F + 1) else .no 22 p) = V := ⟨_, rfl⟩
  have HV : Hid (pcR (if F < s.size then .ok 5 (F + 1) else .no 22 p) = V) := hV
  rw [hV]
  clear hQ hF hV
  go_enter Tryz.func66, Tryz.ntmps66
  go_wp2
  go_loopw [9, 10, 11] (fun sb sc st wr => ∃ k : Nat, p < k ∧ k ≤ s.size ∧ sb = .int .i64 (-1) ∧ sc = .int .i64 0 ∧ st = .int .i64 (k : Int) ∧ fnd s 96 k = F ∧ wr = w) (fun _ _ st _ => s.size - (intOf st).toNat)
  case atStart => exact ⟨p + 1, by omega, by omega, rfl, rfl, by go_num, HF.out, rfl⟩
  case round =>
    obtain ⟨k, hpk, hk, rfl, rfl, rfl, hfk, rfl⟩ := hrel
    have HK : Hid (fnd s 96 k = F) := hfk
    clear hfk
    by_cases hlt : k < s.size
    · have hlt' : ¬ (k : Int) ≥ (s.size : Int) := by omega
      have hlt2 : (k : Int) < (s.size : Int) := by omega
      obtain ⟨n, hn⟩ : ∃ n, (s[k]'hlt).toNat = n := ⟨_, rfl⟩
      have hbt : bt s k = n := by rw [bt_in hlt, hn]
      by_cases hnq : n = 96
      · have HR : Hid (V = pcR (.ok 5 (k + 1))) := by
          unfold Hid; rw [← HV.out, ← HK.out, fnd_out (by rintro ⟨-, h⟩; exact h (by omega)), if_pos hlt]
        clear HK hbt
        subst hnq
        go_wp2
        refine bodyPost_ret (v := .tuple #[.int .i64 5, .int .i64 ((k : Int) + 1), .int .i64 0, .int .i64 0]) (by simp [results, Tryz.results66, go_sem]) rfl ⟨by rw [HR.out]; simp [pcR], Below.refl _ _⟩
      · have HN : Hid (fnd s 96 (k + 1) = F) := by unfold Hid; rw [← fnd_in hlt (by omega)]; exact HK.out
        have hne : ((n : Int) == 96) = false := by simp; omega
        clear HK hbt
        by_cases h10 : n = 10
        · subst h10
          go_wp2
          go_roundw
          case rel => exact ⟨k + 1, by omega, by omega, rfl, rfl, by go_num, HN.out, trivial⟩
          case measure => simp [intOf]; omega
        · have h10' : ((n : Int) == 10) = false := by simp; omega
          go_wp2
          go_roundw
          case rel => exact ⟨k + 1, by omega, by omega, rfl, rfl, by go_num, HN.out, trivial⟩
          case measure => simp [intOf]; omega
    · have hge : (k : Int) ≥ (s.size : Int) := by omega
      have HR : Hid (V = pcR (.no 22 p)) := by
        unfold Hid; rw [← HV.out, ← HK.out, fnd_out (by rintro ⟨h, -⟩; exact hlt h), if_neg hlt]
      clear HK
      go_wp2
      refine bodyPost_ret (v := .tuple #[.int .i64 0, .int .i64 0, .int .i64 22, .int .i64 (p : Int)]) (by simp [results, Tryz.results66, go_sem]) rfl ⟨by rw [HR.out]; simp [pcR], Below.refl _ _⟩

set_option maxRecDepth 1000000 in
set_option maxHeartbeats 8000000 in
theorem rquoted_34 (s : ByteArray) (p : Nat) (hs : s.size ≤ 4294967280) (hp : p < s.size) (hc : (s[p]'hp).toNat = 34) (w : World) (hT : U8 w)
    (hI : ∀ k, k < s.size → ∀ v, U8 v → Calls Tryz.prog 43 #[.string s, .int .i64 (k : Int), .int .u8 34] v fun e w' => e = .returned (itR (itm s k 34)) ∧ Below v.heap.size v w') :
    Calls Tryz.prog 66 #[.string s, .int .i64 (p : Int)] w fun e w' => e = .returned (pcR (quP s p)) ∧ Below w.heap.size w w' := by
  have hQ : quP s p = itO p 5 (quo s 34 (p + 1) 0 none) := by
    unfold quP; rw [if_neg (by rw [bt_in hp, hc]; decide), bt_in hp, hc]
    cases quo s 34 (p + 1) 0 none with
    | none => rfl
    | some x => obtain ⟨t, c, bad⟩ := x; cases bad <;> simp [itO]
  rw [hQ]
  obtain ⟨O, hO⟩ : ∃ O, quo s 34 (p + 1) 0 none = O := ⟨_, rfl⟩
  have HO : Hid (quo s 34 (p + 1) 0 none = O) := hO
  rw [hO]
  have hp' : (p : Int) < (s.size : Int) := by omega
  obtain ⟨V, hV⟩ : ∃ V, pcR (itO p 5 O) = V := ⟨_, rfl⟩
  have HV : Hid (pcR (itO p 5 O) = V) := hV
  rw [hV]
  have HI : Hid (∀ k, k < s.size → ∀ v, Below w.heap.size w v → Calls Tryz.prog 43 #[.string s, .int .i64 (k : Int), .int .u8 34] v fun e w' => e = .returned (itR (itm s k 34)) ∧ Below v.heap.size v w') := fun k hk v hv => hI k hk v (hT.below hv)
  clear hQ hO hV hT hI
  go_enter Tryz.func66, Tryz.ntmps66
  go_wp2
  go_loopw [9, 10, 11] (fun sb sc st wr => ∃ (k c : Nat) (bad : Option Nat), p < k ∧ k ≤ s.size ∧ c ≤ k ∧ sb = .int .i64 (badI bad) ∧ sc = .int .i64 (c : Int) ∧ st = .int .i64 (k : Int) ∧ quo s 34 k c bad = O ∧ Below w.heap.size w wr) (fun _ _ st _ => s.size - (intOf st).toNat)
  case atStart => exact ⟨p + 1, 0, none, by omega, by omega, by omega, rfl, rfl, by go_num, HO.out, Below.refl _ _⟩
  case round =>
    obtain ⟨k, c, bad, hpk, hk, hck, rfl, rfl, rfl, hquo, hbel⟩ := hrel
    have HB : Hid (Below w.heap.size w wr) := hbel
    have HK : Hid (quo s 34 k c bad = O) := hquo
    clear hbel hquo
    by_cases hlt : k < s.size
    · have hlt' : ¬ (k : Int) ≥ (s.size : Int) := by omega
      have hlt2 : (k : Int) < (s.size : Int) := by omega
      obtain ⟨n, hn⟩ : ∃ n, (s[k]'hlt).toNat = n := ⟨_, rfl⟩
      have hbt : bt s k = n := by rw [bt_in hlt, hn]
      by_cases h10 : n = 10
      · have HR : Hid (V = pcR (.no 22 p)) := by
          unfold Hid; rw [← HV.out, ← HK.out, quo_end (by rintro ⟨-, h⟩; exact h (by omega))]; rfl
        clear HK hbt
        subst h10
        go_wp2
        refine bodyPost_ret (v := .tuple #[.int .i64 0, .int .i64 0, .int .i64 22, .int .i64 (p : Int)]) (by simp [results, Tryz.results66, go_sem]) rfl ⟨by rw [HR.out]; simp [pcR], HB.out⟩
      · have h10' : ((n : Int) == 10) = false := by simp; omega
        by_cases hnq : n = 34
        · have HQ1 : Hid (V = pcR (itO p 5 (some (k, c, bad)))) := by
            unfold Hid; rw [← HV.out, ← HK.out, quo_quote hlt (by omega) (by omega)]
          clear HK hbt h10 h10'
          subst hnq
          cases bad with
          | none =>
            rw [show badI none = (-1 : Int) from rfl]
            go_wp2
            refine bodyPost_ret (v := .tuple #[.int .i64 5, .int .i64 ((k : Int) + 1), .int .i64 0, .int .i64 0]) (by simp [results, Tryz.results66, go_sem]) rfl ⟨by rw [HQ1.out]; simp [pcR, itO], HB.out⟩
          | some z =>
            rw [show badI (some z) = (z : Int) from rfl]
            have hz : (z : Int) ≥ 0 := by omega
            go_wp2
            refine bodyPost_ret (v := .tuple #[.int .i64 0, .int .i64 0, .int .i64 20, .int .i64 (z : Int)]) (by simp [results, Tryz.results66, go_sem]) rfl ⟨by rw [HQ1.out]; simp [pcR, itO], HB.out⟩
        · have hne : ((n : Int) == 34) = false := by simp; omega
          have HIt : Hid (∀ v, Below w.heap.size w v → Calls Tryz.prog 43 #[.string s, .int .i64 (k : Int), .int .u8 34] v fun e w' => e = .returned (itR (itm s k 34)) ∧ Below v.heap.size v w') := HI.out k hlt
          have hia : ita s k 34 = itm s k 34 := by unfold ita; rw [if_neg (by omega)]
          cases hi : itm s k 34 with
          | none =>
            have HR : Hid (V = pcR (.no 22 p)) := by
              unfold Hid; rw [← HV.out, ← HK.out, quo_none hlt (by omega) (hia.trans hi)]; rfl
            rw [hi] at HIt
            clear HK hbt hia hi
            go_wp2_with (go_at_call 43; (with_reducible refine (HIt.out wr HB.out).mono ?_); rintro e w3 ⟨rfl, hb3⟩; have HB3 : Hid (Below w.heap.size w w3) := HB.out.trans (hb3.mono HB.out.size); clear hb3; rw [show itR none = .tuple #[.int .i64 0, .int .i64 0, .bool false, .bool false] from rfl])
            refine bodyPost_ret (v := .tuple #[.int .i64 0, .int .i64 0, .int .i64 22, .int .i64 (p : Int)]) (by simp [results, Tryz.results66, go_sem]) rfl ⟨by rw [HR.out]; simp [pcR], HB3.out⟩
          | some it =>
            obtain ⟨hst, -⟩ := quo_step (c := c) (bad := bad) hlt (by omega) (hia.trans hi)
            obtain ⟨i1, i2, -⟩ := itm_n hlt hi
            rw [hi] at HIt
            obtain ⟨N, X, Y, Z⟩ := it
            simp only at hst i1 i2
            have hN0 : ((N : Int) == 0) = false := by simp; omega
            have HN : Hid (quo s 34 (k + N) (c + 1) (if Z = true ∧ bad = none then some k else bad) = O) := by unfold Hid; rw [← hst]; exact HK.out
            have HIr : Hid (∀ v, Below w.heap.size w v → Calls Tryz.prog 43 #[.string s, .int .i64 (k : Int), .int .u8 34] v fun e w' => e = .returned (.tuple #[.int .i64 (N : Int), .int .i64 (X : Int), .bool Y, .bool Z]) ∧ Below v.heap.size v w') := HIt.out
            clear HK hbt hia hi hst HIt
            cases Z with
            | false =>
              rw [if_neg (by simp)] at HN
              go_wp2_with (go_at_call 43; (with_reducible refine (HIr.out wr HB.out).mono ?_); rintro e w3 ⟨rfl, hb3⟩; have HB3 : Hid (Below w.heap.size w w3) := HB.out.trans (hb3.mono HB.out.size); clear hb3)
              go_roundw
              case rel => exact ⟨k + N, c + 1, bad, by omega, by omega, by omega, rfl, by go_num, by go_num, HN.out, HB3.out⟩
              case measure => simp [intOf]; omega
            | true =>
              cases bad with
              | none =>
                rw [if_pos ⟨rfl, rfl⟩] at HN
                rw [show badI none = (-1 : Int) from rfl]
                go_wp2_with (go_at_call 43; (with_reducible refine (HIr.out wr HB.out).mono ?_); rintro e w3 ⟨rfl, hb3⟩; have HB3 : Hid (Below w.heap.size w w3) := HB.out.trans (hb3.mono HB.out.size); clear hb3)
                go_roundw
                case rel => exact ⟨k + N, c + 1, some k, by omega, by omega, by omega, rfl, by go_num, by go_num, HN.out, HB3.out⟩
                case measure => simp [intOf]; omega
              | some z =>
                rw [if_neg (by simp)] at HN
                rw [show badI (some z) = (z : Int) from rfl]
                have hz : ¬ (z : Int) < 0 := by omega
                go_wp2_with (go_at_call 43; (with_reducible refine (HIr.out wr HB.out).mono ?_); rintro e w3 ⟨rfl, hb3⟩; have HB3 : Hid (Below w.heap.size w w3) := HB.out.trans (hb3.mono HB.out.size); clear hb3)
                go_roundw
                case rel => exact ⟨k + N, c + 1, some z, by omega, by omega, by omega, rfl, by go_num, by go_num, HN.out, HB3.out⟩
                case measure => simp [intOf]; omega
    · have hge : (k : Int) ≥ (s.size : Int) := by omega
      have HR : Hid (V = pcR (.no 22 p)) := by
        unfold Hid; rw [← HV.out, ← HK.out, quo_end (by rintro ⟨h, -⟩; exact hlt h)]; rfl
      clear HK
      go_wp2
      refine bodyPost_ret (v := .tuple #[.int .i64 0, .int .i64 0, .int .i64 22, .int .i64 (p : Int)]) (by simp [results, Tryz.results66, go_sem]) rfl ⟨by rw [HR.out]; simp [pcR], HB.out⟩

set_option maxRecDepth 1000000 in
set_option maxHeartbeats 8000000 in
theorem rquoted_39 (s : ByteArray) (p : Nat) (hs : s.size ≤ 4294967280) (hp : p < s.size) (hc : (s[p]'hp).toNat = 39) (w : World) (hT : U8 w)
    (hI : ∀ k, k < s.size → ∀ v, U8 v → Calls Tryz.prog 43 #[.string s, .int .i64 (k : Int), .int .u8 39] v fun e w' => e = .returned (itR (itm s k 39)) ∧ Below v.heap.size v w') :
    Calls Tryz.prog 66 #[.string s, .int .i64 (p : Int)] w fun e w' => e = .returned (pcR (quP s p)) ∧ Below w.heap.size w w' := by
  have hQ : quP s p = itO p 4 (quo s 39 (p + 1) 0 none) := by
    unfold quP; rw [if_neg (by rw [bt_in hp, hc]; decide), bt_in hp, hc]
    cases quo s 39 (p + 1) 0 none with
    | none => rfl
    | some x => obtain ⟨t, c, bad⟩ := x; cases bad <;> simp [itO]
  rw [hQ]
  obtain ⟨O, hO⟩ : ∃ O, quo s 39 (p + 1) 0 none = O := ⟨_, rfl⟩
  have HO : Hid (quo s 39 (p + 1) 0 none = O) := hO
  rw [hO]
  have hp' : (p : Int) < (s.size : Int) := by omega
  obtain ⟨V, hV⟩ : ∃ V, pcR (itO p 4 O) = V := ⟨_, rfl⟩
  have HV : Hid (pcR (itO p 4 O) = V) := hV
  rw [hV]
  have HI : Hid (∀ k, k < s.size → ∀ v, Below w.heap.size w v → Calls Tryz.prog 43 #[.string s, .int .i64 (k : Int), .int .u8 39] v fun e w' => e = .returned (itR (itm s k 39)) ∧ Below v.heap.size v w') := fun k hk v hv => hI k hk v (hT.below hv)
  clear hQ hO hV hT hI
  go_enter Tryz.func66, Tryz.ntmps66
  go_wp2
  go_loopw [9, 10, 11] (fun sb sc st wr => ∃ (k c : Nat) (bad : Option Nat), p < k ∧ k ≤ s.size ∧ c ≤ k ∧ sb = .int .i64 (badI bad) ∧ sc = .int .i64 (c : Int) ∧ st = .int .i64 (k : Int) ∧ quo s 39 k c bad = O ∧ Below w.heap.size w wr) (fun _ _ st _ => s.size - (intOf st).toNat)
  case atStart => exact ⟨p + 1, 0, none, by omega, by omega, by omega, rfl, rfl, by go_num, HO.out, Below.refl _ _⟩
  case round =>
    obtain ⟨k, c, bad, hpk, hk, hck, rfl, rfl, rfl, hquo, hbel⟩ := hrel
    have HB : Hid (Below w.heap.size w wr) := hbel
    have HK : Hid (quo s 39 k c bad = O) := hquo
    clear hbel hquo
    by_cases hlt : k < s.size
    · have hlt' : ¬ (k : Int) ≥ (s.size : Int) := by omega
      have hlt2 : (k : Int) < (s.size : Int) := by omega
      obtain ⟨n, hn⟩ : ∃ n, (s[k]'hlt).toNat = n := ⟨_, rfl⟩
      have hbt : bt s k = n := by rw [bt_in hlt, hn]
      by_cases h10 : n = 10
      · have HR : Hid (V = pcR (.no 22 p)) := by
          unfold Hid; rw [← HV.out, ← HK.out, quo_end (by rintro ⟨-, h⟩; exact h (by omega))]; rfl
        clear HK hbt
        subst h10
        go_wp2
        refine bodyPost_ret (v := .tuple #[.int .i64 0, .int .i64 0, .int .i64 22, .int .i64 (p : Int)]) (by simp [results, Tryz.results66, go_sem]) rfl ⟨by rw [HR.out]; simp [pcR], HB.out⟩
      · have h10' : ((n : Int) == 10) = false := by simp; omega
        by_cases hnq : n = 39
        · have HQ1 : Hid (V = pcR (itO p 4 (some (k, c, bad)))) := by
            unfold Hid; rw [← HV.out, ← HK.out, quo_quote hlt (by omega) (by omega)]
          clear HK hbt h10 h10'
          subst hnq
          by_cases hc1 : c = 1
          · subst hc1
            cases bad with
            | none =>
              rw [show badI none = (-1 : Int) from rfl]
              go_wp2
              refine bodyPost_ret (v := .tuple #[.int .i64 4, .int .i64 ((k : Int) + 1), .int .i64 0, .int .i64 0]) (by simp [results, Tryz.results66, go_sem]) rfl ⟨by rw [HQ1.out]; simp [pcR, itO], HB.out⟩
            | some z =>
              rw [show badI (some z) = (z : Int) from rfl]
              have hz : (z : Int) ≥ 0 := by omega
              go_wp2
              refine bodyPost_ret (v := .tuple #[.int .i64 0, .int .i64 0, .int .i64 20, .int .i64 (z : Int)]) (by simp [results, Tryz.results66, go_sem]) rfl ⟨by rw [HQ1.out]; simp [pcR, itO], HB.out⟩
          · have hc2 : ((c : Int) != 1) = true := by simp; omega
            go_wp2
            refine bodyPost_ret (v := .tuple #[.int .i64 0, .int .i64 0, .int .i64 22, .int .i64 (p : Int)]) (by simp [results, Tryz.results66, go_sem]) rfl ⟨by rw [HQ1.out]; simp [pcR, itO, hc1], HB.out⟩
        · have hne : ((n : Int) == 39) = false := by simp; omega
          have HIt : Hid (∀ v, Below w.heap.size w v → Calls Tryz.prog 43 #[.string s, .int .i64 (k : Int), .int .u8 39] v fun e w' => e = .returned (itR (itm s k 39)) ∧ Below v.heap.size v w') := HI.out k hlt
          have hia : ita s k 39 = itm s k 39 := by unfold ita; rw [if_neg (by omega)]
          cases hi : itm s k 39 with
          | none =>
            have HR : Hid (V = pcR (.no 22 p)) := by
              unfold Hid; rw [← HV.out, ← HK.out, quo_none hlt (by omega) (hia.trans hi)]; rfl
            rw [hi] at HIt
            clear HK hbt hia hi
            go_wp2_with (go_at_call 43; (with_reducible refine (HIt.out wr HB.out).mono ?_); rintro e w3 ⟨rfl, hb3⟩; have HB3 : Hid (Below w.heap.size w w3) := HB.out.trans (hb3.mono HB.out.size); clear hb3; rw [show itR none = .tuple #[.int .i64 0, .int .i64 0, .bool false, .bool false] from rfl])
            refine bodyPost_ret (v := .tuple #[.int .i64 0, .int .i64 0, .int .i64 22, .int .i64 (p : Int)]) (by simp [results, Tryz.results66, go_sem]) rfl ⟨by rw [HR.out]; simp [pcR], HB3.out⟩
          | some it =>
            obtain ⟨hst, -⟩ := quo_step (c := c) (bad := bad) hlt (by omega) (hia.trans hi)
            obtain ⟨i1, i2, -⟩ := itm_n hlt hi
            rw [hi] at HIt
            obtain ⟨N, X, Y, Z⟩ := it
            simp only at hst i1 i2
            have hN0 : ((N : Int) == 0) = false := by simp; omega
            have HN : Hid (quo s 39 (k + N) (c + 1) (if Z = true ∧ bad = none then some k else bad) = O) := by unfold Hid; rw [← hst]; exact HK.out
            have HIr : Hid (∀ v, Below w.heap.size w v → Calls Tryz.prog 43 #[.string s, .int .i64 (k : Int), .int .u8 39] v fun e w' => e = .returned (.tuple #[.int .i64 (N : Int), .int .i64 (X : Int), .bool Y, .bool Z]) ∧ Below v.heap.size v w') := HIt.out
            clear HK hbt hia hi hst HIt
            cases Z with
            | false =>
              rw [if_neg (by simp)] at HN
              go_wp2_with (go_at_call 43; (with_reducible refine (HIr.out wr HB.out).mono ?_); rintro e w3 ⟨rfl, hb3⟩; have HB3 : Hid (Below w.heap.size w w3) := HB.out.trans (hb3.mono HB.out.size); clear hb3)
              go_roundw
              case rel => exact ⟨k + N, c + 1, bad, by omega, by omega, by omega, rfl, by go_num, by go_num, HN.out, HB3.out⟩
              case measure => simp [intOf]; omega
            | true =>
              cases bad with
              | none =>
                rw [if_pos ⟨rfl, rfl⟩] at HN
                rw [show badI none = (-1 : Int) from rfl]
                go_wp2_with (go_at_call 43; (with_reducible refine (HIr.out wr HB.out).mono ?_); rintro e w3 ⟨rfl, hb3⟩; have HB3 : Hid (Below w.heap.size w w3) := HB.out.trans (hb3.mono HB.out.size); clear hb3)
                go_roundw
                case rel => exact ⟨k + N, c + 1, some k, by omega, by omega, by omega, rfl, by go_num, by go_num, HN.out, HB3.out⟩
                case measure => simp [intOf]; omega
              | some z =>
                rw [if_neg (by simp)] at HN
                rw [show badI (some z) = (z : Int) from rfl]
                have hz : ¬ (z : Int) < 0 := by omega
                go_wp2_with (go_at_call 43; (with_reducible refine (HIr.out wr HB.out).mono ?_); rintro e w3 ⟨rfl, hb3⟩; have HB3 : Hid (Below w.heap.size w w3) := HB.out.trans (hb3.mono HB.out.size); clear hb3)
                go_roundw
                case rel => exact ⟨k + N, c + 1, some z, by omega, by omega, by omega, rfl, by go_num, by go_num, HN.out, HB3.out⟩
                case measure => simp [intOf]; omega
    · have hge : (k : Int) ≥ (s.size : Int) := by omega
      have HR : Hid (V = pcR (.no 22 p)) := by
        unfold Hid; rw [← HV.out, ← HK.out, quo_end (by rintro ⟨h, -⟩; exact hlt h)]; rfl
      clear HK
      go_wp2
      refine bodyPost_ret (v := .tuple #[.int .i64 0, .int .i64 0, .int .i64 22, .int .i64 (p : Int)]) (by simp [results, Tryz.results66, go_sem]) rfl ⟨by rw [HR.out]; simp [pcR], HB.out⟩
end Go.Proofs.YtnaipmgdipflgaaGreatDoor
