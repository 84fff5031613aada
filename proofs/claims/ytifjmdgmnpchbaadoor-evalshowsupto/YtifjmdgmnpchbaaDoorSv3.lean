import Derived.Test.YtifjmdgmnpchbaaDoorSv1r
namespace Go.Proofs.YtifjmdgmnpchbaaDoor
open Go.ChangeShapes Go.WideShapes Go.ChangeAt Go.RowKit
set_option linter.unusedVariables false
set_option linter.unusedSimpArgs false

theorem Rg.mem {rs : List Rg} {i : Nat} {r : Rg} (h : rs[i]? = some r) : (rs.map Rg.xs)[i]? = some r.xs := by rw [List.getElem?_map, h]; rfl

set_option maxRecDepth 1000000 in
set_option maxHeartbeats 4000000 in
theorem rshowT_any (a : Option Addr) (cap : Nat) (rs : List Rg) (w : World) (h : Tr w a rs) (hl : rs.length ≤ 1048576) (hle : ∀ r ∈ rs, r.xs.length ≤ 1048576) (hx : ∀ r ∈ rs, ∀ x ∈ r.xs, VlOk x) (hq : (shT (rs.map Rg.xs)).length ≤ 1099511627776) (hT : Tbs w) :
    Calls Tryd.prog 4 #[.slice a rs.length cap] w fun e w' => e = .returned (.string ⟨(shT (rs.map Rg.xs)).toArray⟩) ∧ Below w.heap.size w w' := by
  have HT : Hid (∀ v, Below w.heap.size w v → Tbs v) := fun v h => hT.below h
  have HR : Hid (∀ v, Below w.heap.size w v → Tr v a rs) := fun v hv => h.below hv
  have HX : Hid (∀ r ∈ rs, ∀ x ∈ r.xs, VlOk x) := hx
  have HL : Hid (∀ r ∈ rs, r.xs.length ≤ 1048576) := hle
  obtain ⟨Q, hQ⟩ : ∃ Q, shT (rs.map Rg.xs) = Q := ⟨_, rfl⟩
  rw [hQ] at hq
  have HQ : Hid (shT (rs.map Rg.xs) = Q) := hQ
  rw [hQ]
  clear hT h hx hle hQ
  go_enter Tryd.func4, Tryd.ntmps4
  go_wp2
  go_loopw [3, 4] (fun s i wr => ∃ (k : Nat) (T : ByteArray), k ≤ rs.length ∧ i = .int .i64 k ∧ s = .string T ∧ Below w.heap.size w wr ∧ T.data.toList ++ shT ((rs.map Rg.xs).drop k) = Q) (fun _ i _ => rs.length - (intOf i).toNat)
  case atStart => exact ⟨0, ⟨#[]⟩, Nat.zero_le _, rfl, rfl, Below.refl _ _, HQ.out⟩
  case round =>
    obtain ⟨k, T, hk, rfl, rfl, hbel, hacc⟩ := hrel
    have HB : Hid (Below w.heap.size w wr) := hbel
    have HA : Hid (T.data.toList ++ shT ((rs.map Rg.xs).drop k) = Q) := hacc
    clear hbel hacc
    by_cases hlt : k < rs.length
    · have hlt' : (k : Int) < (rs.length : Int) := by omega
      obtain ⟨r, hr⟩ : ∃ r, rs[k]? = some r := ⟨_, List.getElem?_eq_getElem hlt⟩
      obtain ⟨b, o, rfl, hb0, c0⟩ := (HR.out wr HB.out).row hr
      have HA2 : Hid (T.data.toList ++ (evr true (r.xs.drop 0) ++ ([10] ++ shT ((rs.map Rg.xs).drop (k + 1)))) = Q) := by
        unfold Hid; rw [← HA.out, shT_step (Rg.mem hr)]; simp
      have HRm : Hid (rs[k]? = some r) := hr
      have hrl := HL.out r (List.mem_of_getElem? hr)
      obtain ⟨R, hR⟩ : ∃ R, [10] ++ shT ((rs.map Rg.xs).drop (k + 1)) = R := ⟨_, rfl⟩
      have HRR : Hid ([10] ++ shT ((rs.map Rg.xs).drop (k + 1)) = R) := hR
      rw [hR] at HA2
      clear hR HA hr
      obtain ⟨ra, rc, rx⟩ := r
      simp only at *
      go_wp2
      go_loopw [3, 5] (fun s j wr => ∃ (m : Nat) (T : ByteArray), m ≤ rx.length ∧ j = .int .i64 m ∧ s = .string T ∧ Below w.heap.size w wr ∧ T.data.toList ++ (evr (decide (m = 0)) (rx.drop m) ++ R) = Q) (fun _ j _ => rx.length - (intOf j).toNat)
      case atStart => exact ⟨0, T, Nat.zero_le _, rfl, rfl, HB.out, HA2.out⟩
      case round =>
        obtain ⟨m, T2, hm, rfl, rfl, hbel, hacc2⟩ := hrel
        have HB3 : Hid (Below w.heap.size w wr) := hbel
        have HA3 : Hid (T2.data.toList ++ (evr (decide (m = 0)) (rx.drop m) ++ R) = Q) := hacc2
        have hl3 : T2.size ≤ 1099511627776 := by
          rw [← hacc2, List.length_append] at hq
          have : T2.data.toList.length = T2.size := by rw [Array.length_toList]; rfl
          omega
        obtain ⟨b', o', he, hb', c1⟩ := (HR.out wr HB3.out).row HRm.out
        cases he
        clear hbel hacc2 HA2 c0
        by_cases hmt : m < rx.length
        · have hmt' : (m : Int) < (rx.length : Int) := by omega
          obtain ⟨x, hx⟩ : ∃ x, rx[m]? = some x := ⟨_, List.getElem?_eq_getElem hmt⟩
          obtain ⟨b2, o2, rfl, hb2, d0, d1, d2, d3⟩ := ((HR.out wr HB3.out).2 _ (List.mem_of_getElem? HRm.out)).vl hx
          have HOK : Hid (VlOk x) := HX.out _ (List.mem_of_getElem? HRm.out) x (List.mem_of_getElem? hx)
          have HST := evr_step (decide (m = 0)) hx
          have hsl : (shw x).length ≤ 4194325 := by have := shw_len x HOK.out; have := HOK.out.2.2; omega
          have HCS : Hid (Calls Tryd.prog 7 #[.agg #[.int .u8 x.k, .bool x.b, .int .i64 x.i, .string x.s]] wr fun e w' => e = .returned (.string ⟨(shw x).toArray⟩) ∧ Below wr.heap.size wr w') := rshow_any x HOK.out wr (HT.out wr HB3.out)
          obtain ⟨S, hS⟩ : ∃ S : ByteArray, ⟨(shw x).toArray⟩ = S := ⟨_, rfl⟩
          have hSl : S.data.toList = shw x := by rw [← hS]
          rw [hS] at HCS
          rw [← hSl] at hsl HST
          have hsz : S.size ≤ 4194325 := by rw [Array.length_toList] at hsl; exact hsl
          clear hS hSl hx hsl
          by_cases hm0 : m = 0
          · have HN : Hid ((T2 ++ S).data.toList ++ (evr (decide (m + 1 = 0)) (rx.drop (m + 1)) ++ R) = Q) := by
              unfold Hid; rw [← HA3.out, HST, hm0, app_list]; simp
            clear HST HA3
            subst hm0
            simp only [Nat.zero_mul, Nat.add_zero] at d0 d1 d2 d3
            go_wp2_with (go_at_call 7; (with_reducible refine HCS.out.mono ?_); rintro e w7 ⟨rfl, hb7⟩; have HW7 : Hid (Below w.heap.size w w7) := HB3.out.trans (hb7.mono HB3.out.size); clear hb7)
            go_roundw
            case rel => exact ⟨0 + 1, T2 ++ S, by omega, by go_num, rfl, HW7.out, HN.out⟩
            case measure => simp [intOf]; omega
          · have HN : Hid (((T2 ++ ⟨#[32]⟩) ++ S).data.toList ++ (evr (decide (m + 1 = 0)) (rx.drop (m + 1)) ++ R) = Q) := by
              unfold Hid; rw [← HA3.out, HST, app_list, app_list]; simp [hm0]
            have hmp : (0 : Int) < (m : Int) := by omega
            clear HST HA3 hm0
            go_wp2_with (go_at_call 7; (with_reducible refine HCS.out.mono ?_); rintro e w7 ⟨rfl, hb7⟩; have HW7 : Hid (Below w.heap.size w w7) := HB3.out.trans (hb7.mono HB3.out.size); clear hb7)
            go_roundw
            case rel => exact ⟨m + 1, (T2 ++ ⟨#[32]⟩) ++ S, by omega, by go_num, rfl, HW7.out, HN.out⟩
            case measure => simp [intOf]; omega
        · have hmge : ¬ (m : Int) < (rx.length : Int) := by omega
          have HN : Hid ((T2 ++ ⟨#[10]⟩).data.toList ++ shT ((rs.map Rg.xs).drop (k + 1)) = Q) := by
            unfold Hid; rw [← HA3.out, evr_end _ (by omega), ← HRR.out, app_list]; simp
          clear HA3
          go_wp2
          go_roundw
          case rel => exact ⟨k + 1, T2 ++ ⟨#[10]⟩, by omega, by go_num, rfl, HB3.out, HN.out⟩
          case measure => simp [intOf]; omega
    · have hge : ¬ (k : Int) < (rs.length : Int) := by omega
      have HN : Hid (T.data.toList = Q) := by unfold Hid; rw [← HA.out, shT_end (by simp; omega)]; simp
      go_wp2
      go_ret
      exact ⟨by rw [← HN.out]; rfl, HB.out⟩
end Go.Proofs.YtifjmdgmnpchbaaDoor
