import Derived.Test.YteolfolkolpehaaDoorCoS
namespace Go.Proofs.YteolfolkolpehaaDoor
open Go.ChangeShapes Go.WideShapes Go.ChangeAt Go.RowKit
set_option linter.unusedVariables false

theorem kq1_len (x y c : Int) (r : Rn) : (kq1 x y c r).length ≤ 1 := by
  unfold kq1
  split
  · split <;> simp
  · split <;> simp
theorem kq_len (x y c : Int) (l : List Rn) : (kq x y c l).length ≤ l.length := by
  induction l generalizing c with
  | nil => exact Nat.le_refl _
  | cons r l ih => have := kq1_len x y c r; have := ih (c + rsz r); rw [kq, List.length_append, List.length_cons]; omega

set_option maxRecDepth 1000000 in
set_option maxHeartbeats 4000000 in
theorem kept_row (a : Option Addr) (c : Nat) (l : List Rn) (x y : Int) (w : World) (h : RnA w a l) (hF : ∀ r ∈ l, RnF r) (hl : l.length ≤ 1048576) (hS : szs l ≤ 4611686018428436480) (hx0 : 0 ≤ x) (hx1 : x ≤ 4611686018428436480) (hy0 : 0 ≤ y) (hy1 : y ≤ 4611686018428436480) :
    Calls Tryd.prog 63 #[.slice a l.length c, .int .i64 x, .int .i64 y] w fun e w' => ∃ v, e = .returned v ∧ w'.ownsRow w.heap.size 94 4 v (kq x y 0 l).length (flatR (kq x y 0 l)) ∧ Below w.heap.size w w' := by
  obtain ⟨i0, hi, hz0, hz1, hz2⟩ := info_parts infoRn
  have HF : Hid (∀ r ∈ l, RnF r) := hF
  have H : Hid (RnA w a l) := h
  obtain ⟨Q, hQ⟩ : ∃ Q, kq x y 0 l = Q := ⟨_, rfl⟩
  have HQ : Hid (kq x y 0 l = Q) := hQ
  rw [hQ]
  clear h hF hQ
  go_enter Tryd.func63, Tryd.ntmps63
  go_wp2
  go_loopg [7, 8, 9] l.length (fun gk so sc si wr => ∃ (k : Nat) (c : Int) (p : List Rn), gk = l.length - k ∧ k ≤ l.length ∧ si = .int .i64 (k : Int) ∧ sc = .int .i64 c ∧ 0 ≤ c ∧ c + szs (l.drop k) ≤ 4611686018428436480 ∧ p.length ≤ k ∧ p ++ kq x y c (l.drop k) = Q ∧ wr.ownsRow w.heap.size 94 4 so p.length (flatR p) ∧ Below w.heap.size w wr)
  case atStart => exact ⟨0, 0, [], by omega, Nat.zero_le _, rfl, rfl, Int.le_refl _, by simpa using hS, Nat.zero_le _, by simpa using HQ.out, World.ownsRow_nil _ _ _ _, Below.refl _ _⟩
  case round =>
    obtain ⟨k, c, p, rfl, hk, rfl, rfl, hc0, hcz, hpk, hpq, hown, hbel⟩ := hrel
    have HB : Hid (Below w.heap.size w wr) := hbel
    have HO : Hid (wr.ownsRow w.heap.size 94 4 u7 p.length (flatR p)) := hown
    have HP : Hid (p ++ kq x y c (l.drop k) = Q) := hpq
    clear hbel hown hpq
    by_cases hlt : k < l.length
    · have hlt' : (k : Int) < (l.length : Int) := by omega
      obtain ⟨r, hr⟩ : ∃ r, l[k]? = some r := ⟨_, List.getElem?_eq_getElem hlt⟩
      have hrF := HF.out r (List.mem_of_getElem? hr)
      have HRF : Hid (RnF r) := hrF
      have hb := rsz_bound hrF
      have h2 := szs_drop hr
      have h3 := szs_ge (l := l.drop (k + 1)) (fun q hq => HF.out q (List.mem_of_mem_drop hq))
      have HNX : Hid (p ++ kq1 x y c r ++ kq x y (c + rsz r) (l.drop (k + 1)) = Q) := by
        unfold Hid; rw [← HP.out, drop_get hr, kq, List.append_assoc]
      obtain ⟨ba, oa, hab, hE⟩ : ∃ ba oa, a = some ⟨ba, oa, none⟩ ∧ Rns w ba oa l := by
        rcases H.out with h0 | h0
        · rw [h0] at hlt; simp at hlt
        · exact h0
      subst hab
      have HE : Hid (Rns w ba oa l) := hE
      have HR : Hid (l[k]? = some r) := hr
      obtain ⟨c0, c1, c2, c3⟩ := hE.cells HB.out hr
      have hcn : c + rsz r ≤ 4611686018428436480 := by omega
      have hcs : c + rsz r + szs (l.drop (k + 1)) ≤ 4611686018428436480 := by omega
      clear h2 h3 hE hr hcz
      by_cases hz : rsz r = 0
      · have hmn : ¬ max (x - c) 0 < min (y - c) 0 := by omega
        by_cases hin : x ≤ c ∧ c ≤ y
        · have HK : Hid (kq1 x y c r = [r]) := by unfold Hid kq1; rw [if_pos hz, if_pos hin]
          obtain ⟨in1, in2⟩ := hin
          rw [HK.out, hz, Int.add_zero] at HNX
          go_wp2_with (first
            | (go_at_call 83; (refine (rsize_any r _ HRF.out).mono ?_); rintro e w3 ⟨rfl, hb3⟩; rw [hz]; have HB3 : Hid (Below w.heap.size w w3) := HB.out.trans (hb3.mono HB.out.size); have HO3 : Hid (w3.ownsRow w.heap.size 94 4 u7 p.length (flatR p)) := ownsRow_below HO.out hb3 (Nat.le_refl _); clear hb3 c0 c1 c2 c3; obtain ⟨d0, d1, d2, d3⟩ := HE.out.cells HB3.out HR.out)
            | (at_builtin; (refine wpList_append_own_any _ rfl (.tmp 36) (.tmp 41) 74 rfl w.heap.size 94 i0 (.agg #[.bool false, .int .i64 0, .int .i64 0, .string ⟨#[]⟩]) 4 40 Tryd.underlying74 hi hz0 hz1 hz2 rfl (by decide) _ _ _ rfl (HO3.out.alloc _) (some ⟨w3.heap.size, 0, none⟩) 1 1 (flatR [r]) rfl (by rfl) (fun h => by cases h) (fun ad had => by cases had; exact cells_new w3 (flatR [r]) 94) (flatR_oneCell _) (by unfold maxLen; omega) (by omega) (by have := HB3.out.size; simp; omega) ?_); intro v9 w9 hown9 hgrow9; have HB9 : Hid (Below w.heap.size w w9) := (HB3.out.alloc HB3.out.size _).grown hgrow9 (by have := HB3.out.size; simp; omega) (fun g h => (HO3.out.lt g h).1); have HO9 : Hid (w9.ownsRow w.heap.size 94 4 v9 (p ++ [r]).length (flatR (p ++ [r]))) := (by unfold Hid; rw [flatR_append, List.length_append]; exact hown9); clear hown9 hgrow9 d0 d1 d2 d3))
          go_roundg (l.length - (k + 1))
          case measure => omega
          case rel => exact ⟨k + 1, c, p ++ [r], rfl, by omega, by go_num, by go_num, hc0, by omega, by simp; omega, HNX.out, HO9.out, HB9.out⟩
        · have HK : Hid (kq1 x y c r = []) := by unfold Hid kq1; rw [if_pos hz, if_neg hin]
          rw [HK.out, hz, Int.add_zero, List.append_nil] at HNX
          by_cases in1 : x ≤ c
          · have in2 : ¬ c ≤ y := fun h => hin ⟨in1, h⟩
            clear hin
            go_wp2_with (first
              | (go_at_call 83; (refine (rsize_any r _ HRF.out).mono ?_); rintro e w3 ⟨rfl, hb3⟩; rw [hz]; have HB3 : Hid (Below w.heap.size w w3) := HB.out.trans (hb3.mono HB.out.size); have HO3 : Hid (w3.ownsRow w.heap.size 94 4 u7 p.length (flatR p)) := ownsRow_below HO.out hb3 (Nat.le_refl _); clear hb3 c0 c1 c2 c3; obtain ⟨d0, d1, d2, d3⟩ := HE.out.cells HB3.out HR.out))
            go_roundg (l.length - (k + 1))
            case measure => omega
            case rel => exact ⟨k + 1, c, p, rfl, by omega, by go_num, by go_num, hc0, by omega, by omega, HNX.out, HO3.out, HB3.out⟩
          · clear hin
            go_wp2_with (first
              | (go_at_call 83; (refine (rsize_any r _ HRF.out).mono ?_); rintro e w3 ⟨rfl, hb3⟩; rw [hz]; have HB3 : Hid (Below w.heap.size w w3) := HB.out.trans (hb3.mono HB.out.size); have HO3 : Hid (w3.ownsRow w.heap.size 94 4 u7 p.length (flatR p)) := ownsRow_below HO.out hb3 (Nat.le_refl _); clear hb3 c0 c1 c2 c3; obtain ⟨d0, d1, d2, d3⟩ := HE.out.cells HB3.out HR.out))
            go_roundg (l.length - (k + 1))
            case measure => omega
            case rel => exact ⟨k + 1, c, p, rfl, by omega, by go_num, by go_num, hc0, by omega, by omega, HNX.out, HO3.out, HB3.out⟩
      · have hzb : (rsz r == 0) = false := by simpa using hz
        obtain ⟨lo, hlo⟩ : ∃ lo, max (x - c) 0 = lo := ⟨_, rfl⟩
        obtain ⟨hh, hhh⟩ : ∃ hh, min (y - c) (rsz r) = hh := ⟨_, rfl⟩
        have hl0 : 0 ≤ lo := by omega
        have hl1 : lo ≤ 4611686018428436480 := by omega
        have hh1 : hh ≤ rsz r := by omega
        have hh0 : -4611686018428436480 ≤ hh := by omega
        by_cases hlh : lo < hh
        · have HK : Hid (kq1 x y c r = [rpt r lo hh]) := by unfold Hid kq1; rw [if_neg hz, hlo, hhh, if_pos hlh]
          rw [HK.out] at HNX
          obtain ⟨q, hq⟩ : ∃ q, rpt r lo hh = q := ⟨_, rfl⟩
          have HPT : Hid (∀ v, Calls Tryd.prog 84 #[.agg #[.bool r.old, .int .i64 r.f, .int .i64 r.t, .string r.s], .int .i64 lo, .int .i64 hh] v fun e w' => e = .returned (.agg #[.bool q.old, .int .i64 q.f, .int .i64 q.t, .string q.s]) ∧ Below v.heap.size v w') := fun v => by
            have := rpart_any r lo hh v HRF.out hl0 hlh hh1
            rw [hq] at this; exact this
          rw [hq] at HNX
          clear hq HK
          go_wp2_with (first
            | (go_at_call 83; (refine (rsize_any r _ HRF.out).mono ?_); rintro e w3 ⟨rfl, hb3⟩; have HB3 : Hid (Below w.heap.size w w3) := HB.out.trans (hb3.mono HB.out.size); have HO3 : Hid (w3.ownsRow w.heap.size 94 4 u7 p.length (flatR p)) := ownsRow_below HO.out hb3 (Nat.le_refl _); clear hb3 c0 c1 c2 c3; obtain ⟨d0, d1, d2, d3⟩ := HE.out.cells HB3.out HR.out)
            | (go_at_call 84; (refine (HPT.out _).mono ?_); rintro e w4 ⟨rfl, hb4⟩; have HB4 : Hid (Below w.heap.size w w4) := HB3.out.trans (hb4.mono HB3.out.size); have HO4 : Hid (w4.ownsRow w.heap.size 94 4 u7 p.length (flatR p)) := ownsRow_below HO3.out hb4 (Nat.le_refl _); clear hb4 d0 d1 d2 d3)
            | (at_builtin; (refine wpList_append_own_any _ rfl (.tmp 55) (.tmp 63) 74 rfl w.heap.size 94 i0 (.agg #[.bool false, .int .i64 0, .int .i64 0, .string ⟨#[]⟩]) 4 40 Tryd.underlying74 hi hz0 hz1 hz2 rfl (by decide) _ _ _ rfl (HO4.out.alloc _) (some ⟨w4.heap.size, 0, none⟩) 1 1 (flatR [q]) rfl (by rfl) (fun h => by cases h) (fun ad had => by cases had; exact cells_new w4 (flatR [q]) 94) (flatR_oneCell _) (by unfold maxLen; omega) (by omega) (by have := HB4.out.size; simp; omega) ?_); intro v9 w9 hown9 hgrow9; have HB9 : Hid (Below w.heap.size w w9) := (HB4.out.alloc HB4.out.size _).grown hgrow9 (by have := HB4.out.size; simp; omega) (fun g h => (HO4.out.lt g h).1); have HO9 : Hid (w9.ownsRow w.heap.size 94 4 v9 (p ++ [q]).length (flatR (p ++ [q]))) := (by unfold Hid; rw [flatR_append, List.length_append]; exact hown9); clear hown9 hgrow9 ))
          go_roundg (l.length - (k + 1))
          case measure => omega
          case rel => exact ⟨k + 1, c + rsz r, p ++ [q], rfl, by omega, by go_num, by go_num, by omega, hcs, by simp; omega, HNX.out, HO9.out, HB9.out⟩
        · have HK : Hid (kq1 x y c r = []) := by unfold Hid kq1; rw [if_neg hz, hlo, hhh, if_neg hlh]
          rw [HK.out, List.append_nil] at HNX
          go_wp2_with (first
            | (go_at_call 83; (refine (rsize_any r _ HRF.out).mono ?_); rintro e w3 ⟨rfl, hb3⟩; have HB3 : Hid (Below w.heap.size w w3) := HB.out.trans (hb3.mono HB.out.size); have HO3 : Hid (w3.ownsRow w.heap.size 94 4 u7 p.length (flatR p)) := ownsRow_below HO.out hb3 (Nat.le_refl _); clear hb3 c0 c1 c2 c3; obtain ⟨d0, d1, d2, d3⟩ := HE.out.cells HB3.out HR.out))
          go_roundg (l.length - (k + 1))
          case measure => omega
          case rel => exact ⟨k + 1, c + rsz r, p, rfl, by omega, by go_num, by go_num, by omega, hcs, by omega, HNX.out, HO3.out, HB3.out⟩
    · have hge : ¬ (k : Int) < (l.length : Int) := by omega
      have HZ : Hid (p = Q) := by
        unfold Hid
        have := HP.out
        rw [List.drop_eq_nil_of_le (by omega), kq, List.append_nil] at this
        exact this
      go_wp2
      go_ret
      exact ⟨_, rfl, by rw [← HZ.out]; exact HO.out, HB.out⟩
end Go.Proofs.YteolfolkolpehaaDoor
