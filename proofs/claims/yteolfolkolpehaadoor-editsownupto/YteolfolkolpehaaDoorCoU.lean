import Derived.Test.YteolfolkolpehaaDoorCoS
namespace Go.Proofs.YteolfolkolpehaaDoor
open Go.ChangeShapes Go.WideShapes Go.ChangeAt Go.RowKit
set_option linter.unusedVariables false

theorem kq1_len (x y c : Int) (r : Rn) : (kq1 x y c r).length ≤ 1 := by
  unfold kq1
  split
  · split <;> simp
  · split <;> simp
theorem kq_len (x y c : Int) (l : List Rn) : (kq x y c l).length ≤ l.length := by
  induction l generalizing c with
  | nil => exact Nat.le_refl _
  | cons r l ih => have := kq1_len x y c r; have := ih (c + rsz r); rw [kq, List.length_append, List.length_cons]; omega

set_option maxRecDepth 1000000 in
set_option maxHeartbeats 4000000 in
theorem kept_row (a : Option Addr) (c : Nat) (l : List Rn) (x y : Int) (w : World) (h : RnA w a l) (hF : ∀ r ∈ l, RnF r) (hl : l.length ≤ 1048576) (hS : szs l ≤ 4611686018428436480) (hx0 : 0 ≤ x) (hx1 : x ≤ 4611686018428436480) (hy0 : 0 ≤ y) (hy1 : y ≤ 4611686018428436480) :
    Calls Tryd.prog 63 #[.slice a l.length c, .int .i64 x, .int .i64 y] w fun e w' => ∃ v, e = .returned v ∧ w'.ownsRow w.heap.size 94 4 v (kq x y 0 l).length (flatR (kq x y 0 l)) ∧ Below w.heap.size w w' := by
  obtain ⟨i0, hi, hz0, hz1, hz2⟩ := info_parts infoRn
  have HF : Hid (∀ r ∈ l, RnF r) := hF
  have H : Hid (RnA w a l) := h
  obtain ⟨Q, hQ⟩ : ∃ Q, kq x y 0 l = Q := ⟨_, rfl⟩
  have HQ : Hid (kq x y 0 l = Q) := hQ
  rw [hQ]
  clear h hF hQ
  go_enter Tryd.func63, Tryd.ntmps63
  go_wp2
  go_loopg [7, 8, 9] l.length (fun gk so sc si wr => ∃ (k : Nat) (c : Int) (p : List Rn), gk = l.length - k ∧ k ≤ l.length ∧ si = .int .i64 (k : Int) ∧ sc = .int .i64 c ∧ 0 ≤ c ∧ c + szs (l.drop k) ≤ 4611686018428436480 ∧ p.length ≤ k ∧ p ++ kq x y c (l.drop k) = Q ∧ wr.ownsRow w.heap.size 94 4 so p.length (flatR p) ∧ Below w.heap.size w wr)
  case atStart => exact ⟨0, 0, [], by omega, Nat.zero_le _, rfl, rfl, Int.le_refl _, by simpa using hS, Nat.zero_le _, by simpa using HQ.out, World.ownsRow_nil _ _ _ _, Below.refl _ _⟩
  case round =>
    obtain ⟨k, c, p, rfl, hk, rfl, rfl, hc0, hcz, hpk, hpq, hown, hbel⟩ := hrel
    have HB : Hid (Below w.heap.size w wr) := hbel
    have HO : Hid (wr.ownsRow w.heap.size 94 4 u7 p.length (flatR p)) := hown
    have HP : Hid (p ++ kq x y c (l.drop k) = Q) := hpq
    clear hbel hown hpq
    by_cases hlt : k < l.length
    · have hlt' : (k : Int) < (l.length : Int) := by omega
      obtain ⟨r, hr⟩ : ∃ r, l[k]? = some r := ⟨_, List.getElem?_eq_getElem hlt⟩
      have hrF := HF.out r (List.mem_of_getElem? hr)
      have HRF : Hid (RnF r) := hrF
      have hb := rsz_bound hrF
      have h2 := szs_drop hr
      have h3 := szs_ge (l := l.drop (k + 1)) (fun q hq => HF.out q (List.mem_of_mem_drop hq))
      have HNX : Hid (p ++ kq1 x y c r ++ kq x y (c + rsz r) (l.drop (k + 1)) = Q) := by
        unfold Hid; rw [← HP.out, drop_get hr, kq, List.append_assoc]
      obtain ⟨ba, oa, hab, hE⟩ : ∃ ba oa, a = some ⟨ba, oa, none⟩ ∧ Rns w ba oa l := by
        rcases H.out with h0 | h0
        · rw [h0] at hlt; simp at hlt
        · exact h0
      subst hab
      have HE : Hid (Rns w ba oa l) := hE
      have HR : Hid (l[k]? = some r) := hr
      obtain ⟨c0, c1, c2, c3⟩ := hE.cells HB.out hr
      have hcn : c + rsz r ≤ 4611686018428436480 := by omega
      have hcs : c + rsz r + szs (l.drop (k + 1)) ≤ 4611686018428436480 := by omega
      clear h2 h3 hE hr hcz
      by_cases hz : rsz r = 0
      · have hmn : ¬ max (x - c) 0 < min (y - c) 0 := by omega
        by_cases hin : x ≤ c ∧ c ≤ y
        · have HK : Hid (kq1 x y c r = [r]) := by unfold Hid kq1; rw [if_pos hz, if_pos hin]
          obtain ⟨in1, in2⟩ := hin
          rw [HK.out, hz, Int.add_zero] at HNX
          go_wp2_with (first
            | (go_at_call 83; (refine (rsize_any r _ HRF.out).mono ?_); rintro e w3 ⟨rfl, hb3⟩; rw [hz]; have HB3 : Hid (Below w.heap.size w w3) := HB.out.trans (hb3.mono HB.out.size); have HO3 : Hid (w3.ownsRow w.heap.size 94 4 u7 p.length (flatR p)) := ownsRow_below HO.out hb3 (Nat.le_refl _); clear hb3 c0 c1 c2 c3; obtain ⟨d0, d1, d2, d3⟩ := HE.out.cells HB3.out HR.out)
            | (at_builtin; (refine wpList_append_own_any _ rfl (.tmp 36) (.tmp 41) 74 rfl w.heap.size 94 i0 (.agg #[.bool false, .int .i64 0, .int .i64 0, .string ⟨#[]⟩]) 4 40 Tryd.underlying74 hi hz0 hz1 hz2 rfl (by decide) _ _ _ rfl (HO3.out.alloc _) (some ⟨w3.heap.size, 0, none⟩) 1 1 (flatR [r]) rfl (by rfl) (fun h => by cases h) (fun ad had => by cases had; exact cells_new w3 (flatR [r]) 94) (flatR_oneCell _) (by unfold maxLen; omega) (by omega) (by have := HB3.out.size; simp; omega) ?_); intro v9 w9 hown9 hgrow9; have HB9 : Hid (Below w.heap.size w w9) := (HB3.out.alloc HB3.out.size _).grown hgrow9 (by have := HB3.out.size; simp; omega) (fun g h => (HO3.out.lt g h).1); have HO9 : Hid (w9.ownsRow w.heap.size 94 4 v9 (p ++ [r]).length (flatR (p ++ [r]))) := (by unfold Hid; rw [flatR_append, List.length_append]; exact hown9); clear hown9 hgrow9 d0 d1 d2 d3))
          go_roundg (l.length - (k + 1))
          case measure => omega
          case rel => exact ⟨k + 1, c, p ++ [r], rfl, by omega, by go_num, by go_num, hc0, by omega, by simp; omega, HNX.out, HO9.out, HB9.out⟩
        · have HK : Hid (kq1 x y c r = []) := by unfold Hid kq1; rw [if_pos hz, if_neg hin]
          rw [HK.out, hz, Int.add_zero, List.append_nil] at HNX
          by_cases in1 : x ≤ c
          · have in2 : ¬ c ≤ y := fun h => hin ⟨in1, h⟩
            clear hin
            go_wp2_with (first
              | (go_at_call 83; (refine (rsize_any r _ HRF.out).mono ?_); rintro e w3 ⟨rfl, hb3⟩; rw [hz]; have HB3 : Hid (Below w.heap.size w w3) := HB.out.trans (hb3.mono HB.out.size); have HO3 : Hid (w3.ownsRow w.heap.size 94 4 u7 p.length (flatR p)) := ownsRow_below HO.out hb3 (Nat.le_refl _); clear hb3 c0 c1 c2 c3; obtain ⟨d0, d1, d2, d3⟩ := HE.out.cells HB3.out HR.out))
            go_roundg (l.length - (k + 1))
            case measure => omega
            case rel => exact ⟨k + 1, c, p, rfl, by omega, by go_num, by go_num, hc0, by omega, by omega, HNX.out, HO3.out, HB3.out⟩
          · clear hin
            go_wp2_with (first
              | (go_at_call 83; (refine (rsize_any r _ HRF.out).mono ?_); rintro e w3 ⟨rfl, hb3⟩; rw [hz]; have HB3 : Hid (Below w.heap.size w w3) := HB.out.trans (hb3.mono HB.out.size); have HO3 : Hid (w3.ownsRow w.heap.size 94 4 u7 p.length (flatR p)) := ownsRow_below HO.out hb3 (Nat.le_refl _); clear hb3 c0 c1 c2 c3; obtain ⟨d0, d1, d2, d3⟩ := HE.out.cells HB3.out HR.out))
            go_roundg (l.length - (k + 1))
            case measure => omega
            case rel => exact ⟨k + 1, c, p, rfl, by omega, by go_num, by go_num, hc0, by omega, by omega, HNX.out, HO3.out, HB3.out⟩
      · have hzb : (rsz r == 0) = false := by simpa using hz
        obtain ⟨lo, hlo⟩ : ∃ lo, max (x - c) 0 = lo := ⟨_, rfl⟩
        obtain ⟨hh, hhh⟩ : ∃ hh, min (y - c) (rsz r) = hh := ⟨_, rfl⟩
        have hl0 : 0 ≤ lo := by omega
        have hl1 : lo ≤ 4611686018428436480 := by omega
        have hh1 : hh ≤ rsz r := by omega
        have hh0 : -4611686018428436480 ≤ hh := by omega
        by_cases hlh : lo < hh
        · have HK : Hid (kq1 x y c r = [rpt r lo hh]) := by unfold Hid kq1; rw [if_neg hz, hlo, hhh, if_pos hlh]
          rw [HK.out] at HNX
          obtain ⟨q, hq⟩ : ∃ q, rpt r lo hh = q := ⟨_, rfl⟩
          have HPT : Hid (∀ v, Calls Tryd.prog 84 #[.agg #[.bool r.old, .int .i64 r.f, .int .i64 r.t, .string r.s], .int .i64 lo, .int .i64 hh] v fun e w' => e = .returned (.agg #[.bool q.old, .int .i64 q.f, .int .i64 q.t, .string q.s]) ∧ Below v.heap.size v w') := fun v => by
            have := rpart_any r lo hh v HRF.out hl0 hlh hh1
            rw [hq] at this; exact this
          rw [hq] at HNX
          clear hq HK
          go_wp2_with (first
            | (go_at_call 83; (refine (rsize_any r _ HRF.out).mono ?_); rintro e w3 ⟨rfl, hb3⟩; have HB3 : Hid (Below w.heap.size w w3) := HB.out.trans (hb3.mono HB.out.size); have HO3 : Hid (w3.ownsRow w.heap.size 94 4 u7 p.length (flatR p)) := ownsRow_below HO.out hb3 (Nat.le_refl _); clear hb3 c0 c1 c2 c3; obtain ⟨d0, d1, d2, d3⟩ := HE.out.cells HB3.out HR.out)
            | (go_at_call 84; (refine (HPT.out _).mono ?_); rintro e w4 ⟨rfl, hb4⟩; have HB4 : Hid (Below w.heap.size w w4) := HB3.out.trans (hb4.mono HB3.out.size); have HO4 : Hid (w4.ownsRow w.heap.size 94 4 u7 p.length (flatR p)) := ownsRow_below HO3.out hb4 (Nat.le_refl _); clear hb4 d0 d1 d2 d3)
            | (at_builtin; (refine wpList_append_own_any _ rfl (.tmp 55) (.tmp 63) 74 rfl w.heap.size 94 i0 (.agg #[.bool false, .int .i64 0, .int .i64 0, .string ⟨#[]⟩]) 4 40 Tryd.underlying74 hi hz0 hz1 hz2 rfl (by decide) _ _ _ rfl (HO4.out.alloc _) (some ⟨w4.heap.size, 0, none⟩) 1 1 (flatR [q]) rfl (by rfl) (fun h => by cases h) (fun ad had => by cases had; exact cells_new w4 (flatR [q]) 94) (flatR_oneCell _) (by unfold maxLen; omega) (by omega) (by have := HB4.out.size; simp; omega) ?_); intro v9 w9 hown9 hgrow9; have HB9 : Hid (Below w.heap.size w w9) := (HB4.out.alloc HB4.out.size _).grown hgrow9 (by have := HB4.out.size; simp; omega) (fun g h => (HO4.out.lt g h).1); have HO9 : Hid (w9.ownsRow w.heap.size 94 4 v9 (p ++ [q]).length (flatR (p ++ [q]))) := (by unfold Hid; rw [flatR_append, List.length_append]; exact hown9); clear hown9 hgrow9 ))
          go_roundg (l.length - (k + 1))
          case measure => omega
          case rel => exact ⟨k + 1, c + rsz r, p ++ [q], rfl, by omega, by go_num, by go_num, by omega, hcs, by simp; omega, HNX.out, HO9.out, HB9.out⟩
        · have HK : Hid (kq1 x y c r = []) := by unfold Hid kq1; rw [if_neg hz, hlo, hhh, if_neg hlh]
          rw [HK.out, List.append_nil] at HNX
          go_wp2_with (first
            | (go_at_call 83; (refine (rsize_any r _ HRF.out).mono ?_); rintro e w3 ⟨rfl, hb3⟩; have HB3 : Hid (Below w.heap.size w w3) := HB.out.trans (hb3.mono HB.out.size); have HO3 : Hid (w3.ownsRow w.heap.size 94 4 u7 p.length (flatR p)) := ownsRow_below HO.out hb3 (Nat.le_refl _); clear hb3 c0 c1 c2 c3; obtain ⟨d0, d1, d2, d3⟩ := HE.out.cells HB3.out HR.out))
          go_roundg (l.length - (k + 1))
          case measure => omega
          case rel => exact ⟨k + 1, c + rsz r, p, rfl, by omega, by go_num, by go_num, by omega, hcs, by omega, HNX.out, HO3.out, HB3.out⟩
    · have hge : ¬ (k : Int) < (l.length : Int) := by omega
      have HZ : Hid (p = Q) := by
        unfold Hid
        have := HP.out
        rw [List.drop_eq_nil_of_le (by omega), kq, List.append_nil] at this
        exact this
      go_wp2
      go_ret
      exact ⟨_, rfl, by rw [← HZ.out]; exact HO.out, HB.out⟩
end Go.Proofs.YteolfolkolpehaaDoor

namespace Go.Proofs.YteolfolkolpehaaDoor
open Go.ChangeShapes Go.WideShapes Go.ChangeAt Go.RowKit
set_option linter.unusedVariables false

set_option maxRecDepth 1000000 in
set_option maxHeartbeats 4000000 in
theorem done_row (a0 : Option Addr) (c0 : Nat) (l : List Rn) (a1 : Option Addr) (c1 : Nat) (xs : List Ed) (w : World) (hw : RnA w a0 l) (hF : ∀ r ∈ l, RnF r) (hll : l.length ≤ 131074) (hS : szs l ≤ 4611686018428436480) (h : EdsA w a1 xs) (hl : xs.length ≤ 65536) (hK : ∀ e ∈ xs, 0 ≤ e.f ∧ e.f ≤ e.t ∧ e.t ≤ 4611686018428436480) :
    Calls Tryd.prog 37 #[.slice a0 l.length c0, .slice a1 xs.length c1] w fun e w' => ∃ v, e = .returned v ∧ w'.ownsRow w.heap.size 94 4 v (dq l 0 xs).length (flatR (dq l 0 xs)) ∧ Below w.heap.size w w' := by
  obtain ⟨i0, hi, hz0, hz1, hz2⟩ := info_parts infoRn
  have HX : Hid (EdsA w a1 xs) := h
  have HW : Hid (RnA w a0 l) := hw
  have HK : Hid (∀ e ∈ xs, 0 ≤ e.f ∧ e.f ≤ e.t ∧ e.t ≤ 4611686018428436480) := hK
  obtain ⟨Q, hQ⟩ : ∃ Q, dq l 0 xs = Q := ⟨_, rfl⟩
  have HQ : Hid (dq l 0 xs = Q) := hQ
  have hS0 : 0 ≤ szs l := szs_ge hF
  have HKP : Hid (∀ v x y, Below w.heap.size w v → 0 ≤ x → x ≤ 4611686018428436480 → 0 ≤ y → y ≤ 4611686018428436480 → Calls Tryd.prog 63 #[.slice a0 l.length c0, .int .i64 x, .int .i64 y] v fun e w' => ∃ u, e = .returned u ∧ w'.ownsRow v.heap.size 94 4 u (kq x y 0 l).length (flatR (kq x y 0 l)) ∧ Below v.heap.size v w') := fun v x y hv h1 h2 h3 h4 =>
    kept_row a0 c0 l x y v (hw.below hv) hF (by omega) hS h1 h2 h3 h4
  have HSZ : Hid (∀ v, Below w.heap.size w v → Calls Tryd.prog 64 #[.slice a0 l.length c0] v fun e w' => e = .returned (.int .i64 (szs l)) ∧ Below v.heap.size v w') := fun v hv => Size_any a0 c0 l v (hw.below hv) hF (by omega) hS
  rw [hQ]
  clear h hw hK hQ hF
  go_enter Tryd.func37, Tryd.ntmps37
  go_wp2
  go_loopg [5, 6, 7] xs.length (fun gk so sc si wr => ∃ (k : Nat) (c : Int) (p : List Rn), gk = xs.length - k ∧ k ≤ xs.length ∧ si = .int .i64 (k : Int) ∧ sc = .int .i64 c ∧ 0 ≤ c ∧ c ≤ 4611686018428436480 ∧ p.length ≤ k * 131075 ∧ p ++ dq l c (xs.drop k) = Q ∧ wr.ownsRow w.heap.size 94 4 so p.length (flatR p) ∧ Below w.heap.size w wr)
  case atStart => exact ⟨0, 0, [], by omega, Nat.zero_le _, rfl, rfl, Int.le_refl _, by omega, Nat.zero_le _, by simpa using HQ.out, World.ownsRow_nil _ _ _ _, Below.refl _ _⟩
  case round =>
    obtain ⟨k, c, p, rfl, hk, rfl, rfl, hc0, hc1, hpk, hpq, hown, hbel⟩ := hrel
    have HB : Hid (Below w.heap.size w wr) := hbel
    have HO : Hid (wr.ownsRow w.heap.size 94 4 u5 p.length (flatR p)) := hown
    have HP : Hid (p ++ dq l c (xs.drop k) = Q) := hpq
    clear hbel hown hpq
    by_cases hlt : k < xs.length
    · have hlt' : (k : Int) < (xs.length : Int) := by omega
      obtain ⟨e, he⟩ : ∃ e, xs[k]? = some e := ⟨_, List.getElem?_eq_getElem hlt⟩
      have heK := HK.out e (List.mem_of_getElem? he)
      have HNX : Hid (p ++ kq c e.f 0 l ++ [⟨false, 0, 0, e.s⟩] ++ dq l e.t (xs.drop (k + 1)) = Q) := by
        unfold Hid; rw [← HP.out, drop_get he, dq]; simp
      have hkl := kq_len c e.f 0 l
      obtain ⟨ba, oa, hab, hE⟩ : ∃ ba oa, a1 = some ⟨ba, oa, none⟩ ∧ Eds w ba oa xs := by
        rcases HX.out with h0 | h0
        · rw [h0] at hlt; simp at hlt
        · exact h0
      subst hab
      have HE : Hid (Eds w ba oa xs) := hE
      have HR : Hid (xs[k]? = some e) := he
      obtain ⟨q0, q1, q2⟩ := hE.cells HB.out he
      obtain ⟨R, hR⟩ : ∃ R, kq c e.f 0 l = R := ⟨_, rfl⟩
      have HKC : Hid (∀ v, Below w.heap.size w v → Calls Tryd.prog 63 #[.slice a0 l.length c0, .int .i64 c, .int .i64 e.f] v fun e w' => ∃ u, e = .returned u ∧ w'.ownsRow v.heap.size 94 4 u R.length (flatR R) ∧ Below v.heap.size v w') := fun v hv => by
        have := HKP.out v c e.f hv hc0 hc1 heK.1 (by omega)
        rw [hR] at this; exact this
      rw [hR] at hkl HNX
      clear hE he hR HKP
      go_wp2_with (first
        | (go_at_call 63; (refine (HKC.out _ HB.out).mono ?_); rintro e w3 ⟨x3, rfl, o3, hb3⟩; have HB3 : Hid (Below w.heap.size w w3) := HB.out.trans (hb3.mono HB.out.size); have HO3 : Hid (w3.ownsRow w.heap.size 94 4 u5 p.length (flatR p)) := ownsRow_below HO.out hb3 (Nat.le_refl _); obtain ⟨a3, k3, rfl, g3, -, n3⟩ := own_formR o3; have HR3 : Hid (RnA w3 a3 R) := g3; have HN3 : Hid (a3 = none → R.length = 0 ∧ k3 = 0) := n3; clear hb3 o3 g3 n3 q0 q1 q2)
        | (at_builtin; (refine wpList_append_own_any _ rfl (.tmp 14) (.tmp 22) 74 rfl w.heap.size 94 i0 (.agg #[.bool false, .int .i64 0, .int .i64 0, .string ⟨#[]⟩]) 4 40 Tryd.underlying74 hi hz0 hz1 hz2 rfl (by decide) _ _ _ rfl HO3.out a3 R.length k3 (flatR R) rfl (flatR_length _) HN3.out HR3.out.news (flatR_oneCell _) (by unfold maxLen; omega) (by omega) (by have := HB3.out.size; omega) ?_); intro v4 w4 hown4 hgrow4; have HB4 : Hid (Below w.heap.size w w4) := HB3.out.grown hgrow4 HB3.out.size (fun g h => (HO3.out.lt g h).1); have HO4 : Hid (w4.ownsRow w.heap.size 94 4 v4 (p.length + R.length) (flatR (p ++ R))) := (by unfold Hid; rw [flatR_append]; exact hown4); clear hown4 hgrow4; obtain ⟨q0, q1, q2⟩ := HE.out.cells HB4.out HR.out)
        | (at_builtin; ((refine wpList_append_own_any _ rfl (.tmp 24) (.tmp 31) 74 rfl w.heap.size 94 i0 (.agg #[.bool false, .int .i64 0, .int .i64 0, .string ⟨#[]⟩]) 4 40 Tryd.underlying74 hi hz0 hz1 hz2 rfl (by decide) _ _ _ rfl (HO4.out.alloc _) (some ⟨w4.heap.size, 0, none⟩) 1 1 (flatR [⟨false, 0, 0, e.s⟩]) rfl (by rfl) (fun h => by cases h) (fun ad had => by cases had; exact cells_new w4 (flatR [⟨false, 0, 0, e.s⟩]) 94) (flatR_oneCell _) (by unfold maxLen; omega) (by omega) (by have := HB4.out.size; simp; omega) ?_); intro v9 w9 hown9 hgrow9; have HB9 : Hid (Below w.heap.size w w9) := (HB4.out.alloc HB4.out.size _).grown hgrow9 (by have := HB4.out.size; simp; omega) (fun g h => (HO4.out.lt g h).1); have HO9 : Hid (w9.ownsRow w.heap.size 94 4 v9 (p ++ R ++ ([⟨false, 0, 0, e.s⟩] : List Rn)).length (flatR (p ++ R ++ ([⟨false, 0, 0, e.s⟩] : List Rn)))) := (by unfold Hid; rw [flatR_append, List.length_append, List.length_append]; exact hown9); clear hown9 hgrow9 q0 q1 q2; obtain ⟨q0, q1, q2⟩ := HE.out.cells HB9.out HR.out)))
      go_roundg (xs.length - (k + 1))
      case measure => omega
      case rel => exact ⟨k + 1, e.t, p ++ R ++ [⟨false, 0, 0, e.s⟩], rfl, by omega, by go_num, rfl, by omega, heK.2.2, by simp only [List.length_append, List.length_singleton]; omega, HNX.out, HO9.out, HB9.out⟩
    · have hge : ¬ (k : Int) < (xs.length : Int) := by omega
      have HNX : Hid (p ++ kq c (szs l) 0 l = Q) := by
        unfold Hid; rw [← HP.out, List.drop_eq_nil_of_le (by omega), dq]
      have hkl := kq_len c (szs l) 0 l
      obtain ⟨R, hR⟩ : ∃ R, kq c (szs l) 0 l = R := ⟨_, rfl⟩
      have HKC : Hid (∀ v, Below w.heap.size w v → Calls Tryd.prog 63 #[.slice a0 l.length c0, .int .i64 c, .int .i64 (szs l)] v fun e w' => ∃ u, e = .returned u ∧ w'.ownsRow v.heap.size 94 4 u R.length (flatR R) ∧ Below v.heap.size v w') := fun v hv => by
        have := HKP.out v c (szs l) hv hc0 hc1 hS0 hS
        rw [hR] at this; exact this
      rw [hR] at hkl HNX
      clear hR HKP
      go_wp2_with (first
        | (go_at_call 64; (refine (HSZ.out _ HB.out).mono ?_); rintro e w2 ⟨rfl, hb2⟩; have HB2 : Hid (Below w.heap.size w w2) := HB.out.trans (hb2.mono HB.out.size); have HO2 : Hid (w2.ownsRow w.heap.size 94 4 u5 p.length (flatR p)) := ownsRow_below HO.out hb2 (Nat.le_refl _); clear hb2)
        | (go_at_call 63; (refine (HKC.out _ HB2.out).mono ?_); rintro e w3 ⟨x3, rfl, o3, hb3⟩; have HB3 : Hid (Below w.heap.size w w3) := HB2.out.trans (hb3.mono HB2.out.size); have HO3 : Hid (w3.ownsRow w.heap.size 94 4 u5 p.length (flatR p)) := ownsRow_below HO2.out hb3 (Nat.le_refl _); obtain ⟨a3, k3, rfl, g3, -, n3⟩ := own_formR o3; have HR3 : Hid (RnA w3 a3 R) := g3; have HN3 : Hid (a3 = none → R.length = 0 ∧ k3 = 0) := n3; clear hb3 o3 g3 n3)
        | (at_builtin; (refine wpList_append_own_any _ rfl (.tmp 38) (.tmp 43) 74 rfl w.heap.size 94 i0 (.agg #[.bool false, .int .i64 0, .int .i64 0, .string ⟨#[]⟩]) 4 40 Tryd.underlying74 hi hz0 hz1 hz2 rfl (by decide) _ _ _ rfl HO3.out a3 R.length k3 (flatR R) rfl (flatR_length _) HN3.out HR3.out.news (flatR_oneCell _) (by unfold maxLen; omega) (by omega) (by have := HB3.out.size; omega) ?_); intro v4 w4 hown4 hgrow4; have HB4 : Hid (Below w.heap.size w w4) := HB3.out.grown hgrow4 HB3.out.size (fun g h => (HO3.out.lt g h).1); have HO4 : Hid (w4.ownsRow w.heap.size 94 4 v4 (p ++ R).length (flatR (p ++ R))) := (by unfold Hid; rw [flatR_append, List.length_append]; exact hown4); clear hown4 hgrow4))
      go_ret
      exact ⟨_, rfl, by rw [← HNX.out]; exact HO4.out, HB4.out⟩
end Go.Proofs.YteolfolkolpehaaDoor
