import Derived.Test.YteolfolkolpehaaDoorMj
import Derived.Test.YteolfolkolpehaaDoorCoU
namespace Go.Proofs.YteolfolkolpehaaDoor
open Go.ChangeShapes Go.WideShapes Go.ChangeAt Go.RowKit
set_option linter.unusedVariables false

def mgL (size : Int) (a b : List Ed) : List Ed := if val62 size a = 0 then (if val62 size b = 0 then mrg a b else []) else []
def mgE (size : Int) (a b : List Ed) : Int := if val62 size a = 0 then (if val62 size b = 0 then mrgE a b else val62 size b) else val62 size a

theorem sbs_len : ∀ (a b : List Ed), (sbs a b).length = a.length + b.length
  | [], b => by rw [sbs_left]; simp
  | x :: a, [] => by rw [sbs_right]; simp
  | x :: a, y :: b => by
    cases h : ahd y x with
    | true => rw [sbs_b h, List.length_cons, sbs_len (x :: a) b]; simp; omega
    | false => rw [sbs_a h, List.length_cons, sbs_len a (y :: b)]; simp; omega
termination_by a b => a.length + b.length
theorem tots_sbs : ∀ (a b : List Ed), tots (sbs a b) = tots a + tots b
  | [], b => by rw [sbs_left]; simp [tots]
  | x :: a, [] => by rw [sbs_right]; simp [tots]
  | x :: a, y :: b => by
    cases h : ahd y x with
    | true => rw [sbs_b h, tots, tots_sbs (x :: a) b]; simp [tots]; omega
    | false => rw [sbs_a h, tots, tots_sbs a (y :: b)]; simp [tots]; omega
termination_by a b => a.length + b.length

theorem vld_len {size : Int} {xs : List Ed} (h : vld size xs = 0) : xs.length ≤ 65536 := by
  unfold vld at h; split at h
  · omega
  · omega

set_option maxRecDepth 1000000 in
set_option maxHeartbeats 2000000 in
theorem merge_all (size : Int) (a1 a2 : Option Addr) (c1 c2 : Nat) (a b : List Ed) (w : World) (hs0 : -9223372036854775808 ≤ size) (hs1 : size ≤ 9223372036854775807) (h1 : EdsC w a1 c1 a) (h2 : EdsC w a2 c2 b) (hn1 : a1 = none → c1 = 0) (hn2 : a2 = none → c2 = 0)
    (hl1 : a.length ≤ 1048576) (hl2 : b.length ≤ 1048576) (hT : tots a + tots b ≤ 1048576) :
    Calls Tryd.prog 25 #[.int .i64 size, .slice a1 a.length c1, .slice a2 b.length c2] w fun e w' => ∃ a' cap', e = .returned (.tuple #[.slice a' (mgL size a b).length cap', .int .i64 (mgE size a b)]) ∧ EdsA w' a' (mgL size a b) ∧ (a' = none → (mgL size a b).length = 0 ∧ cap' = 0) ∧ Below w.heap.size w w' := by
  have H1 : Hid (EdsC w a1 c1 a) := h1
  have H2 : Hid (EdsC w a2 c2 b) := h2
  have HN1 : Hid (a1 = none → c1 = 0) := hn1
  have HN2 : Hid (a2 = none → c2 = 0) := hn2
  have HL1 : Hid (a.length ≤ maxLen) := by unfold Hid maxLen; omega
  have HL2 : Hid (b.length ≤ maxLen) := by unfold Hid maxLen; omega
  have HVA : Hid (∀ v, Below w.heap.size w v → Calls Tryd.prog 33 #[.int .i64 size, .slice a1 a.length c1] v fun e w' => e = .returned (.int .i64 (val62 size a)) ∧ Below v.heap.size v w') := fun v hv => valid_all size a1 c1 a v hs0 hs1 (h1.below hv).all HL1.out
  have HVB : Hid (∀ v, Below w.heap.size w v → Calls Tryd.prog 33 #[.int .i64 size, .slice a2 b.length c2] v fun e w' => e = .returned (.int .i64 (val62 size b)) ∧ Below v.heap.size v w') := fun v hv => valid_all size a2 c2 b v hs0 hs1 (h2.below hv).all HL2.out
  clear h1 h2 hn1 hn2
  by_cases hv1 : val62 size a = 0
  · by_cases hv2 : val62 size b = 0
    · have hla := vld_len (val62_ok hv1).2.2
      have hlb := vld_len (val62_ok hv2).2.2
      rw [hv1] at HVA
      rw [hv2] at HVB
      have HM : Hid (mgL size a b = mrg a b ∧ mgE size a b = mrgE a b) := by unfold Hid mgL mgE; rw [if_pos hv1, if_pos hv2, if_pos hv1, if_pos hv2]; exact ⟨rfl, rfl⟩
      obtain ⟨hm1, hm2⟩ := HM.out
      rw [hm1, hm2]
      obtain ⟨all, hall⟩ : ∃ all, sbs a b = all := ⟨_, rfl⟩
      have hlen : all.length = a.length + b.length := by rw [← hall, sbs_len]
      have htot : tots all ≤ 1048576 := by rw [← hall, tots_sbs]; exact hT
      have HR : Hid (mrg a b = (if mtg all = true then [] else if 65536 < (jn all).length then [] else jn all) ∧ mrgE a b = (if mtg all = true then 11 else if 65536 < (jn all).length then 2 else 0)) := by
        unfold Hid mrg mrgE; rw [hall]; exact ⟨rfl, rfl⟩
      have HAL : Hid (sbs a b = all) := hall
      have hlj := jn_len all
      have hl131 : all.length ≤ 131072 := by omega
      have hlj2 : (jn all).length ≤ 131072 := by omega
      clear hv1 hv2 hm1 hm2 HM hall hlen hlj
      obtain ⟨hm1, hm2⟩ := HR.out
      rw [hm1, hm2]
      clear hm1 hm2 HR
      have HSB : Hid (∀ v, Below w.heap.size w v → Calls Tryd.prog 50 #[.slice a1 a.length c1, .slice a2 b.length c2] v fun e w' => ∃ x, e = .returned x ∧ w'.ownsRow v.heap.size 45 3 x all.length (flat all) ∧ Below v.heap.size v w') := fun v hv => by
        have := sideBySide_any a1 a2 c1 c2 a b v (H1.out.below hv) (H2.out.below hv) hla hlb HN1.out HN2.out
        rw [HAL.out] at this; exact this
      obtain ⟨mt, hmt⟩ : ∃ mt, mtg all = mt := ⟨_, rfl⟩
      have HMT : Hid (mtg all = mt) := hmt
      rw [hmt]
      clear hmt
      obtain ⟨J, hJ⟩ : ∃ J, jn all = J := ⟨_, rfl⟩
      have HJ : Hid (jn all = J) := hJ
      rw [hJ] at hlj2
      rw [hJ]
      clear hJ
      cases mt with
      | true =>
        go_enter Tryd.func25, Tryd.ntmps25
        go_wp2_with (first
          | (go_at_call 33; (with_reducible refine (HVA.out _ (Below.refl _ _)).mono ?_); rintro e w3 ⟨rfl, hb3⟩; have HB3 : Hid (Below w.heap.size w w3) := hb3; clear hb3)
          | (go_at_call 33; (with_reducible refine (HVB.out _ HB3.out).mono ?_); rintro e w4 ⟨rfl, hb4⟩; have HB4 : Hid (Below w.heap.size w w4) := HB3.out.trans (hb4.mono HB3.out.size); clear hb4)
          | (go_at_call 50; (with_reducible refine (HSB.out _ HB4.out).mono ?_); rintro e w5 ⟨x5, rfl, o5, hb5⟩; have HB5 : Hid (Below w.heap.size w w5) := HB4.out.trans (hb5.mono HB4.out.size); obtain ⟨a5, c5, rfl, q5⟩ := own_formC o5; have HQ5 : Hid (EdsA w5 a5 all) := q5.all; clear hb5 o5 q5)
          | (go_at_call 51; refine (meeting_any _ _ all _ HQ5.out hl131).mono ?_; rintro e w6 ⟨rfl, hb6⟩; rw [HMT.out]; have HB6 : Hid (Below w.heap.size w w6) := HB5.out.trans (hb6.mono HB5.out.size); clear hb6))
        go_ret2
        exact ⟨none, 0, rfl, .inl rfl, by simp, HB6.out⟩
      | false =>
        by_cases hmn : 65536 < J.length
        · have hmn' : (65536 : Int) < (J.length : Int) := by omega
          simp only [Bool.false_eq_true, if_false]
          rw [if_pos hmn, if_pos hmn]
          clear hmn
          go_enter Tryd.func25, Tryd.ntmps25
          go_wp2_with (first
            | (go_at_call 33; (with_reducible refine (HVA.out _ (Below.refl _ _)).mono ?_); rintro e w3 ⟨rfl, hb3⟩; have HB3 : Hid (Below w.heap.size w w3) := hb3; clear hb3)
            | (go_at_call 33; (with_reducible refine (HVB.out _ HB3.out).mono ?_); rintro e w4 ⟨rfl, hb4⟩; have HB4 : Hid (Below w.heap.size w w4) := HB3.out.trans (hb4.mono HB3.out.size); clear hb4)
            | (go_at_call 50; (with_reducible refine (HSB.out _ HB4.out).mono ?_); rintro e w5 ⟨x5, rfl, o5, hb5⟩; have HB5 : Hid (Below w.heap.size w w5) := HB4.out.trans (hb5.mono HB4.out.size); obtain ⟨a5, c5, rfl, q5⟩ := own_formC o5; have HQ5 : Hid (EdsA w5 a5 all) := q5.all; clear hb5 o5 q5)
            | (go_at_call 51; refine (meeting_any _ _ all _ HQ5.out hl131).mono ?_; rintro e w6 ⟨rfl, hb6⟩; rw [HMT.out]; have HB6 : Hid (Below w.heap.size w w6) := HB5.out.trans (hb6.mono HB5.out.size); have HB56 : Hid (Below w5.heap.size w5 w6) := hb6; clear hb6)
            | (go_at_call 52; refine (joined_any _ _ all _ (HQ5.out.below HB56.out) hl131 htot).mono ?_; rintro e w7 ⟨x7, rfl, o7, hb7⟩; rw [HJ.out] at o7; have HB7 : Hid (Below w.heap.size w w7) := HB6.out.trans (hb7.mono HB6.out.size); obtain ⟨a7, c7, rfl, q7, -, hn7⟩ := own_form o7; have HQ7 : Hid (EdsA w7 a7 J) := q7; have HN7 : Hid (a7 = none → J.length = 0 ∧ c7 = 0) := hn7; clear hb7 o7 q7 hn7))
          go_ret2
          exact ⟨none, 0, rfl, .inl rfl, by simp, HB7.out⟩
        · have hmn' : ¬ (65536 : Int) < (J.length : Int) := by omega
          simp only [Bool.false_eq_true, if_false]
          rw [if_neg hmn, if_neg hmn]
          clear hmn
          go_enter Tryd.func25, Tryd.ntmps25
          go_wp2_with (first
            | (go_at_call 33; (with_reducible refine (HVA.out _ (Below.refl _ _)).mono ?_); rintro e w3 ⟨rfl, hb3⟩; have HB3 : Hid (Below w.heap.size w w3) := hb3; clear hb3)
            | (go_at_call 33; (with_reducible refine (HVB.out _ HB3.out).mono ?_); rintro e w4 ⟨rfl, hb4⟩; have HB4 : Hid (Below w.heap.size w w4) := HB3.out.trans (hb4.mono HB3.out.size); clear hb4)
            | (go_at_call 50; (with_reducible refine (HSB.out _ HB4.out).mono ?_); rintro e w5 ⟨x5, rfl, o5, hb5⟩; have HB5 : Hid (Below w.heap.size w w5) := HB4.out.trans (hb5.mono HB4.out.size); obtain ⟨a5, c5, rfl, q5⟩ := own_formC o5; have HQ5 : Hid (EdsA w5 a5 all) := q5.all; clear hb5 o5 q5)
            | (go_at_call 51; refine (meeting_any _ _ all _ HQ5.out hl131).mono ?_; rintro e w6 ⟨rfl, hb6⟩; rw [HMT.out]; have HB6 : Hid (Below w.heap.size w w6) := HB5.out.trans (hb6.mono HB5.out.size); have HB56 : Hid (Below w5.heap.size w5 w6) := hb6; clear hb6)
            | (go_at_call 52; refine (joined_any _ _ all _ (HQ5.out.below HB56.out) hl131 htot).mono ?_; rintro e w7 ⟨x7, rfl, o7, hb7⟩; rw [HJ.out] at o7; have HB7 : Hid (Below w.heap.size w w7) := HB6.out.trans (hb7.mono HB6.out.size); obtain ⟨a7, c7, rfl, q7, -, hn7⟩ := own_form o7; have HQ7 : Hid (EdsA w7 a7 J) := q7; have HN7 : Hid (a7 = none → J.length = 0 ∧ c7 = 0) := hn7; clear hb7 o7 q7 hn7))
          go_ret2
          exact ⟨a7, c7, rfl, HQ7.out, HN7.out, HB7.out⟩
    · rw [hv1] at HVA
      have HM : Hid (mgL size a b = [] ∧ mgE size a b = val62 size b) := by unfold Hid mgL mgE; rw [if_pos hv1, if_neg hv2, if_pos hv1, if_neg hv2]; exact ⟨rfl, rfl⟩
      obtain ⟨hm1, hm2⟩ := HM.out
      rw [hm1, hm2]
      have hne : (val62 size b != 0) = true := by simpa using hv2
      clear hv1 hv2 hm1 hm2 HM
      generalize val62 size b = vb at *
      go_enter Tryd.func25, Tryd.ntmps25
      go_wp2_with (first
        | (go_at_call 33; (with_reducible refine (HVA.out _ (Below.refl _ _)).mono ?_); rintro e w3 ⟨rfl, hb3⟩; have HB3 : Hid (Below w.heap.size w w3) := hb3; clear hb3)
        | (go_at_call 33; (with_reducible refine (HVB.out _ HB3.out).mono ?_); rintro e w4 ⟨rfl, hb4⟩; have HB4 : Hid (Below w.heap.size w w4) := HB3.out.trans (hb4.mono HB3.out.size); clear hb4))
      go_ret2
      exact ⟨none, 0, rfl, .inl rfl, by simp, HB4.out⟩
  · have HM : Hid (mgL size a b = [] ∧ mgE size a b = val62 size a) := by unfold Hid mgL mgE; rw [if_neg hv1, if_neg hv1]; exact ⟨rfl, rfl⟩
    obtain ⟨hm1, hm2⟩ := HM.out
    rw [hm1, hm2]
    have hne : (val62 size a != 0) = true := by simpa using hv1
    clear hv1 hm1 hm2 HM
    generalize val62 size a = va at *
    go_enter Tryd.func25, Tryd.ntmps25
    go_wp2_with (go_at_call 33; (with_reducible refine (HVA.out _ (Below.refl _ _)).mono ?_); rintro e w3 ⟨rfl, hb3⟩; have HB3 : Hid (Below w.heap.size w w3) := hb3; clear hb3)
    go_ret2
    exact ⟨none, 0, rfl, .inl rfl, by simp, HB3.out⟩
end Go.Proofs.YteolfolkolpehaaDoor

namespace Go.Proofs.YteolfolkolpehaaDoor
open Go.ChangeShapes Go.WideShapes Go.ChangeAt Go.RowKit
set_option linter.unusedVariables false

def tR : List Rn → Nat
  | [] => 0
  | r :: l => r.s.size + tR l
theorem tR_append (a b : List Rn) : tR (a ++ b) = tR a + tR b := by
  induction a with
  | nil => simp [tR]
  | cons r l ih => rw [List.cons_append, tR, tR, ih]; omega
theorem tR_drop {l : List Rn} {k : Nat} {r : Rn} (h : l[k]? = some r) : tR (l.drop k) = r.s.size + tR (l.drop (k + 1)) := by rw [drop_get h, tR]
theorem tR_kq1 (x y c : Int) (r : Rn) : tR (kq1 x y c r) ≤ r.s.size := by
  unfold kq1
  split
  · split
    · simp [tR]
    · simp [tR]
  · split
    · unfold rpt
      split
      · have : (⟨#[]⟩ : ByteArray).size = 0 := rfl
        simp only [tR]; omega
      · simp [tR]; omega
    · simp [tR]
theorem tR_kq (x y c : Int) (l : List Rn) : tR (kq x y c l) ≤ tR l := by
  induction l generalizing c with
  | nil => exact Nat.le_refl _
  | cons r l ih => have := tR_kq1 x y c r; have := ih (c + rsz r); rw [kq, tR_append, tR]; omega
theorem tR_dq (l : List Rn) (c : Int) (b : List Ed) : tR (dq l c b) ≤ (b.length + 1) * tR l + tots b := by
  induction b generalizing c with
  | nil => have := tR_kq c (szs l) 0 l; simp [dq, tots]; exact this
  | cons e r ih =>
    have h1 := tR_kq c e.f 0 l
    have h2 := ih e.t
    rw [dq, tR_append, tR, tots, List.length_cons, Nat.add_mul (r.length + 1) 1, Nat.one_mul]
    simp only
    omega
theorem dq_len (l : List Rn) (c : Int) (b : List Ed) : (dq l c b).length ≤ (b.length + 1) * (l.length + 1) := by
  induction b generalizing c with
  | nil => have := kq_len c (szs l) 0 l; simp [dq]; omega
  | cons e r ih =>
    have h1 := kq_len c e.f 0 l
    have h2 := ih e.t
    rw [dq, List.length_append, List.length_cons, List.length_cons, Nat.add_mul (r.length + 1) 1, Nat.one_mul]
    omega

set_option maxRecDepth 1000000 in
set_option maxHeartbeats 4000000 in
theorem List_any (a : Option Addr) (c : Nat) (l : List Rn) (size : Int) (w : World) (h : RnA w a l) (hl : l.length ≤ 1099511627776) (hs0 : 0 ≤ size) (hs1 : size ≤ 4611686018427387904) (hG : ∀ r ∈ l, RnG 4611686018427387904 r) (hT : tR l ≤ 1099511627776) :
    Calls Tryd.prog 44 #[.slice a l.length c, .int .i64 size] w fun e w' => ∃ v, e = .returned v ∧ w'.ownsRow w.heap.size 45 3 v (lq size 0 false [] l).length (flat (lq size 0 false [] l)) ∧ Below w.heap.size w w' := by
  obtain ⟨i0, hi0, hz0, hz1, hz2⟩ := info_parts infoEd
  have H : Hid (RnA w a l) := h
  have HG : Hid (∀ r ∈ l, RnG 4611686018427387904 r) := hG
  obtain ⟨Q, hQ⟩ : ∃ Q, lq size 0 false [] l = Q := ⟨_, rfl⟩
  have HQ : Hid (lq size 0 false [] l = Q) := hQ
  rw [hQ]
  clear h hQ hG
  go_enter Tryd.func44, Tryd.ntmps44
  go_wp2
  go_loopg [5, 6, 7, 8, 9] (l.length + 1) (fun gk so sl sp st si wr => ∃ (k : Nat) (last : Int) (op : Bool) (P : ByteArray) (p : List Ed), gk = l.length + 1 - k ∧ k ≤ l.length + 1 ∧ si = .int .i64 (k : Int) ∧ sl = .int .i64 last ∧ sp = .bool op ∧ st = .string P ∧ P.size + tR (l.drop k) ≤ 1099511627776 ∧ p.length ≤ k ∧ (k ≤ l.length → p ++ lq size last op P.data.toList (l.drop k) = Q) ∧ (l.length < k → p = Q) ∧ wr.ownsRow w.heap.size 45 3 so p.length (flat p) ∧ Below w.heap.size w wr)
  case atStart => exact ⟨0, 0, false, ⟨#[]⟩, [], by omega, Nat.zero_le _, rfl, rfl, rfl, rfl, by simpa [ByteArray.size] using hT, Nat.zero_le _, (fun _ => by simpa using HQ.out), (fun h => by omega), World.ownsRow_nil _ _ _ _, Below.refl _ _⟩
  case round =>
    obtain ⟨k, last, op, P, p, rfl, hk, rfl, rfl, rfl, rfl, hPT, hpk, hpq, hpe, hown, hbel⟩ := hrel
    have HB : Hid (Below w.heap.size w wr) := hbel
    have HO : Hid (wr.ownsRow w.heap.size 45 3 u5 p.length (flat p)) := hown
    have HPE : Hid (l.length < k → p = Q) := hpe
    have HPQ : Hid (k ≤ l.length → p ++ lq size last op P.data.toList (l.drop k) = Q) := hpq
    clear hbel hown hpq hpe
    by_cases hend : l.length < k
    · have hge : ¬ (k : Int) ≤ (l.length : Int) := by omega
      have HZ := HPE.out hend
      have HZ' : Hid (p = Q) := HZ
      clear HZ
      go_wp2
      go_ret
      exact ⟨_, rfl, by rw [← HZ'.out]; exact HO.out, HB.out⟩
    · have hle : (k : Int) ≤ (l.length : Int) := by omega
      have hpq := HPQ.out (by omega)
      by_cases hlt : k < l.length
      · have hlt' : (k : Int) < (l.length : Int) := by omega
        obtain ⟨r, hr⟩ : ∃ r, l[k]? = some r := ⟨_, List.getElem?_eq_getElem hlt⟩
        have hrG := HG.out r (List.mem_of_getElem? hr)
        have hrT := tR_drop hr
        obtain ⟨ba, oa, hab, hE⟩ : ∃ ba oa, a = some ⟨ba, oa, none⟩ ∧ Rns w ba oa l := by
          rcases H.out with h0 | h0
          · rw [h0] at hlt; simp at hlt
          · exact h0
        subst hab
        have HE : Hid (Rns w ba oa l) := hE
        have HR : Hid (l[k]? = some r) := hr
        obtain ⟨q0, q1, q2, q3⟩ := hE.cells HB.out hr
        rw [drop_get hr, lq] at hpq
        have hPs : P.size + (r.s.size + tR (l.drop (k + 1))) ≤ 1099511627776 := by omega
        clear hPT hrT hE hr
        cases ho : r.old with
        | false =>
          rw [ho, if_neg (by simp)] at hpq
          have HN : Hid (p ++ lq size last true (P ++ r.s).data.toList (l.drop (k + 1)) = Q) := by
            unfold Hid; rw [← hpq]; simp
          rw [ho] at q0
          have hcat : (P ++ r.s).size = P.size + r.s.size := ByteArray.size_append
          clear hpq hrG
          go_wp2
          go_roundg (l.length + 1 - (k + 1))
          case measure => omega
          case rel => exact ⟨k + 1, last, true, P ++ r.s, p, rfl, by omega, by go_num, rfl, rfl, rfl, by omega, by omega, (fun _ => HN.out), (fun h => by omega), HO.out, HB.out⟩
        | true =>
          have hg := hrG.1 ho
          rw [ho, if_pos rfl] at hpq
          rw [ho] at q0
          by_cases hop : op = true ∨ last < r.f
          · rw [if_pos hop] at hpq
            have hPb : (⟨P.data.toList.toArray⟩ : ByteArray) = P := by apply bytes_ext; simp
            rw [hPb] at hpq
            have HN : Hid (p ++ [⟨last, r.f, P⟩] ++ lq size r.t false [] (l.drop (k + 1)) = Q) := by
              unfold Hid; rw [← hpq]; simp
            clear hpq hrG hPb
            rcases hop with hop | hop
            · subst hop
              go_wp2_with (first | (at_builtin; (refine wpList_append_own_any _ rfl (.tmp 46) (.tmp 51) 22 rfl w.heap.size 45 i0 (.agg #[.int .i64 0, .int .i64 0, .string ⟨#[]⟩]) 3 32 Tryd.underlying22 hi0 hz0 hz1 hz2 rfl (by decide) _ _ _ rfl (HO.out.alloc _) (some ⟨wr.heap.size, 0, none⟩) 1 1 (flat [⟨last, r.f, P⟩]) rfl (by rfl) (fun h => by cases h) (fun ad had => by cases had; exact cells_new wr (flat [⟨last, r.f, P⟩]) 45) (flat_oneCell _) (by unfold maxLen; omega) (by omega) (by have := HB.out.size; simp; omega) ?_); intro v9 w9 hown9 hgrow9; have HB9 : Hid (Below w.heap.size w w9) := (HB.out.alloc HB.out.size _).grown hgrow9 (by have := HB.out.size; simp; omega) (fun g h => (HO.out.lt g h).1); have HO9 : Hid (w9.ownsRow w.heap.size 45 3 v9 (p ++ ([⟨last, r.f, P⟩] : List Ed)).length (flat (p ++ ([⟨last, r.f, P⟩] : List Ed)))) := (by unfold Hid; rw [flat_append, List.length_append]; exact hown9); clear hown9 hgrow9 q0 q1 q2 q3; obtain ⟨q0, q1, q2, q3⟩ := HE.out.cells HB9.out HR.out; rw [ho] at q0))
              go_roundg (l.length + 1 - (k + 1))
              case measure => omega
              case rel => exact ⟨k + 1, r.t, false, ⟨#[]⟩, p ++ [⟨last, r.f, P⟩], rfl, by omega, by go_num, rfl, rfl, rfl, by have : (⟨#[]⟩ : ByteArray).size = 0 := rfl; omega, by simp; omega, (fun _ => HN.out), (fun h => by omega), HO9.out, HB9.out⟩
            · cases op
              · go_wp2_with (first | (at_builtin; (refine wpList_append_own_any _ rfl (.tmp 46) (.tmp 51) 22 rfl w.heap.size 45 i0 (.agg #[.int .i64 0, .int .i64 0, .string ⟨#[]⟩]) 3 32 Tryd.underlying22 hi0 hz0 hz1 hz2 rfl (by decide) _ _ _ rfl (HO.out.alloc _) (some ⟨wr.heap.size, 0, none⟩) 1 1 (flat [⟨last, r.f, P⟩]) rfl (by rfl) (fun h => by cases h) (fun ad had => by cases had; exact cells_new wr (flat [⟨last, r.f, P⟩]) 45) (flat_oneCell _) (by unfold maxLen; omega) (by omega) (by have := HB.out.size; simp; omega) ?_); intro v9 w9 hown9 hgrow9; have HB9 : Hid (Below w.heap.size w w9) := (HB.out.alloc HB.out.size _).grown hgrow9 (by have := HB.out.size; simp; omega) (fun g h => (HO.out.lt g h).1); have HO9 : Hid (w9.ownsRow w.heap.size 45 3 v9 (p ++ ([⟨last, r.f, P⟩] : List Ed)).length (flat (p ++ ([⟨last, r.f, P⟩] : List Ed)))) := (by unfold Hid; rw [flat_append, List.length_append]; exact hown9); clear hown9 hgrow9 q0 q1 q2 q3; obtain ⟨q0, q1, q2, q3⟩ := HE.out.cells HB9.out HR.out; rw [ho] at q0))
                go_roundg (l.length + 1 - (k + 1))
                case measure => omega
                case rel => exact ⟨k + 1, r.t, false, ⟨#[]⟩, p ++ [⟨last, r.f, P⟩], rfl, by omega, by go_num, rfl, rfl, rfl, by have : (⟨#[]⟩ : ByteArray).size = 0 := rfl; omega, by simp; omega, (fun _ => HN.out), (fun h => by omega), HO9.out, HB9.out⟩
              · go_wp2_with (first | (at_builtin; (refine wpList_append_own_any _ rfl (.tmp 46) (.tmp 51) 22 rfl w.heap.size 45 i0 (.agg #[.int .i64 0, .int .i64 0, .string ⟨#[]⟩]) 3 32 Tryd.underlying22 hi0 hz0 hz1 hz2 rfl (by decide) _ _ _ rfl (HO.out.alloc _) (some ⟨wr.heap.size, 0, none⟩) 1 1 (flat [⟨last, r.f, P⟩]) rfl (by rfl) (fun h => by cases h) (fun ad had => by cases had; exact cells_new wr (flat [⟨last, r.f, P⟩]) 45) (flat_oneCell _) (by unfold maxLen; omega) (by omega) (by have := HB.out.size; simp; omega) ?_); intro v9 w9 hown9 hgrow9; have HB9 : Hid (Below w.heap.size w w9) := (HB.out.alloc HB.out.size _).grown hgrow9 (by have := HB.out.size; simp; omega) (fun g h => (HO.out.lt g h).1); have HO9 : Hid (w9.ownsRow w.heap.size 45 3 v9 (p ++ ([⟨last, r.f, P⟩] : List Ed)).length (flat (p ++ ([⟨last, r.f, P⟩] : List Ed)))) := (by unfold Hid; rw [flat_append, List.length_append]; exact hown9); clear hown9 hgrow9 q0 q1 q2 q3; obtain ⟨q0, q1, q2, q3⟩ := HE.out.cells HB9.out HR.out; rw [ho] at q0))
                go_roundg (l.length + 1 - (k + 1))
                case measure => omega
                case rel => exact ⟨k + 1, r.t, false, ⟨#[]⟩, p ++ [⟨last, r.f, P⟩], rfl, by omega, by go_num, rfl, rfl, rfl, by have : (⟨#[]⟩ : ByteArray).size = 0 := rfl; omega, by simp; omega, (fun _ => HN.out), (fun h => by omega), HO9.out, HB9.out⟩
          · rw [if_neg hop] at hpq
            have HN : Hid (p ++ lq size r.t false [] (l.drop (k + 1)) = Q) := hpq
            have hof : op = false := Bool.eq_false_iff.2 (fun h => hop (.inl h))
            subst hof
            have hlf : ¬ last < r.f := fun h => hop (.inr h)
            clear hpq hrG hop
            go_wp2
            go_roundg (l.length + 1 - (k + 1))
            case measure => omega
            case rel => exact ⟨k + 1, r.t, false, ⟨#[]⟩, p, rfl, by omega, by go_num, rfl, rfl, rfl, by have : (⟨#[]⟩ : ByteArray).size = 0 := rfl; omega, by omega, (fun _ => HN.out), (fun h => by omega), HO.out, HB.out⟩
      · have hlt' : ¬ (k : Int) < (l.length : Int) := by omega
        rw [List.drop_eq_nil_of_le (by omega), lq] at hpq
        have hPb : (⟨P.data.toList.toArray⟩ : ByteArray) = P := by apply bytes_ext; simp
        rw [hPb] at hpq
        have hd1 : tR (l.drop (k + 1)) = 0 := by rw [List.drop_eq_nil_of_le (by omega)]; rfl
        by_cases hop : op = true ∨ last < size
        · rw [if_pos hop] at hpq
          have HN : Hid (p ++ [⟨last, size, P⟩] = Q) := hpq
          clear hpq hPb
          rcases hop with hop | hop
          · subst hop
            go_wp2_with (first | (at_builtin; (refine wpList_append_own_any _ rfl (.tmp 46) (.tmp 51) 22 rfl w.heap.size 45 i0 (.agg #[.int .i64 0, .int .i64 0, .string ⟨#[]⟩]) 3 32 Tryd.underlying22 hi0 hz0 hz1 hz2 rfl (by decide) _ _ _ rfl (HO.out.alloc _) (some ⟨wr.heap.size, 0, none⟩) 1 1 (flat [⟨last, size, P⟩]) rfl (by rfl) (fun h => by cases h) (fun ad had => by cases had; exact cells_new wr (flat [⟨last, size, P⟩]) 45) (flat_oneCell _) (by unfold maxLen; omega) (by omega) (by have := HB.out.size; simp; omega) ?_); intro v9 w9 hown9 hgrow9; have HB9 : Hid (Below w.heap.size w w9) := (HB.out.alloc HB.out.size _).grown hgrow9 (by have := HB.out.size; simp; omega) (fun g h => (HO.out.lt g h).1); have HO9 : Hid (w9.ownsRow w.heap.size 45 3 v9 (p ++ ([⟨last, size, P⟩] : List Ed)).length (flat (p ++ ([⟨last, size, P⟩] : List Ed)))) := (by unfold Hid; rw [flat_append, List.length_append]; exact hown9); clear hown9 hgrow9))
            go_roundg (l.length + 1 - (k + 1))
            case measure => omega
            case rel => exact ⟨k + 1, last, false, ⟨#[]⟩, p ++ [⟨last, size, P⟩], rfl, by omega, by go_num, rfl, rfl, rfl, by have : (⟨#[]⟩ : ByteArray).size = 0 := rfl; omega, by simp; omega, (fun h => by omega), (fun _ => HN.out), HO9.out, HB9.out⟩
          · cases op
            · go_wp2_with (first | (at_builtin; (refine wpList_append_own_any _ rfl (.tmp 46) (.tmp 51) 22 rfl w.heap.size 45 i0 (.agg #[.int .i64 0, .int .i64 0, .string ⟨#[]⟩]) 3 32 Tryd.underlying22 hi0 hz0 hz1 hz2 rfl (by decide) _ _ _ rfl (HO.out.alloc _) (some ⟨wr.heap.size, 0, none⟩) 1 1 (flat [⟨last, size, P⟩]) rfl (by rfl) (fun h => by cases h) (fun ad had => by cases had; exact cells_new wr (flat [⟨last, size, P⟩]) 45) (flat_oneCell _) (by unfold maxLen; omega) (by omega) (by have := HB.out.size; simp; omega) ?_); intro v9 w9 hown9 hgrow9; have HB9 : Hid (Below w.heap.size w w9) := (HB.out.alloc HB.out.size _).grown hgrow9 (by have := HB.out.size; simp; omega) (fun g h => (HO.out.lt g h).1); have HO9 : Hid (w9.ownsRow w.heap.size 45 3 v9 (p ++ ([⟨last, size, P⟩] : List Ed)).length (flat (p ++ ([⟨last, size, P⟩] : List Ed)))) := (by unfold Hid; rw [flat_append, List.length_append]; exact hown9); clear hown9 hgrow9))
              go_roundg (l.length + 1 - (k + 1))
              case measure => omega
              case rel => exact ⟨k + 1, last, false, ⟨#[]⟩, p ++ [⟨last, size, P⟩], rfl, by omega, by go_num, rfl, rfl, rfl, by have : (⟨#[]⟩ : ByteArray).size = 0 := rfl; omega, by simp; omega, (fun h => by omega), (fun _ => HN.out), HO9.out, HB9.out⟩
            · go_wp2_with (first | (at_builtin; (refine wpList_append_own_any _ rfl (.tmp 46) (.tmp 51) 22 rfl w.heap.size 45 i0 (.agg #[.int .i64 0, .int .i64 0, .string ⟨#[]⟩]) 3 32 Tryd.underlying22 hi0 hz0 hz1 hz2 rfl (by decide) _ _ _ rfl (HO.out.alloc _) (some ⟨wr.heap.size, 0, none⟩) 1 1 (flat [⟨last, size, P⟩]) rfl (by rfl) (fun h => by cases h) (fun ad had => by cases had; exact cells_new wr (flat [⟨last, size, P⟩]) 45) (flat_oneCell _) (by unfold maxLen; omega) (by omega) (by have := HB.out.size; simp; omega) ?_); intro v9 w9 hown9 hgrow9; have HB9 : Hid (Below w.heap.size w w9) := (HB.out.alloc HB.out.size _).grown hgrow9 (by have := HB.out.size; simp; omega) (fun g h => (HO.out.lt g h).1); have HO9 : Hid (w9.ownsRow w.heap.size 45 3 v9 (p ++ ([⟨last, size, P⟩] : List Ed)).length (flat (p ++ ([⟨last, size, P⟩] : List Ed)))) := (by unfold Hid; rw [flat_append, List.length_append]; exact hown9); clear hown9 hgrow9))
              go_roundg (l.length + 1 - (k + 1))
              case measure => omega
              case rel => exact ⟨k + 1, last, false, ⟨#[]⟩, p ++ [⟨last, size, P⟩], rfl, by omega, by go_num, rfl, rfl, rfl, by have : (⟨#[]⟩ : ByteArray).size = 0 := rfl; omega, by simp; omega, (fun h => by omega), (fun _ => HN.out), HO9.out, HB9.out⟩
        · rw [if_neg hop, List.append_nil] at hpq
          have HN : Hid (p = Q) := hpq
          have hof : op = false := Bool.eq_false_iff.2 (fun h => hop (.inl h))
          subst hof
          have hlf : ¬ last < size := fun h => hop (.inr h)
          clear hpq hop
          go_wp2
          go_roundg (l.length + 1 - (k + 1))
          case measure => omega
          case rel => exact ⟨k + 1, last, false, ⟨#[]⟩, p, rfl, by omega, by go_num, rfl, rfl, rfl, by have : (⟨#[]⟩ : ByteArray).size = 0 := rfl; omega, by omega, (fun h => by omega), (fun _ => HN.out), HO.out, HB.out⟩
end Go.Proofs.YteolfolkolpehaaDoor
