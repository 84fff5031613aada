import Derived.Test.YteolfolkolpehaaDoorCoT
namespace Go.Proofs.YteolfolkolpehaaDoor
open Go.ChangeShapes Go.WideShapes Go.ChangeAt Go.RowKit
set_option linter.unusedVariables false

set_option maxRecDepth 1000000 in
set_option maxHeartbeats 4000000 in
theorem done_row (a0 : Option Addr) (c0 : Nat) (l : List Rn) (a1 : Option Addr) (c1 : Nat) (xs : List Ed) (w : World) (hw : RnA w a0 l) (hF : ∀ r ∈ l, RnF r) (hll : l.length ≤ 131074) (hS : szs l ≤ 4611686018428436480) (h : EdsA w a1 xs) (hl : xs.length ≤ 65536) (hK : ∀ e ∈ xs, 0 ≤ e.f ∧ e.f ≤ e.t ∧ e.t ≤ 4611686018428436480) :
    Calls Tryd.prog 37 #[.slice a0 l.length c0, .slice a1 xs.length c1] w fun e w' => ∃ v, e = .returned v ∧ w'.ownsRow w.heap.size 94 4 v (dq l 0 xs).length (flatR (dq l 0 xs)) ∧ Below w.heap.size w w' := by
  obtain ⟨i0, hi, hz0, hz1, hz2⟩ := info_parts infoRn
  have HX : Hid (EdsA w a1 xs) := h
  have HW : Hid (RnA w a0 l) := hw
  have HK : Hid (∀ e ∈ xs, 0 ≤ e.f ∧ e.f ≤ e.t ∧ e.t ≤ 4611686018428436480) := hK
  obtain ⟨Q, hQ⟩ : ∃ Q, dq l 0 xs = Q := ⟨_, rfl⟩
  have HQ : Hid (dq l 0 xs = Q) := hQ
  have hS0 : 0 ≤ szs l := szs_ge hF
  have HKP : Hid (∀ v x y, Below w.heap.size w v → 0 ≤ x → x ≤ 4611686018428436480 → 0 ≤ y → y ≤ 4611686018428436480 → Calls Tryd.prog 63 #[.slice a0 l.length c0, .int .i64 x, .int .i64 y] v fun e w' => ∃ u, e = .returned u ∧ w'.ownsRow v.heap.size 94 4 u (kq x y 0 l).length (flatR (kq x y 0 l)) ∧ Below v.heap.size v w') := fun v x y hv h1 h2 h3 h4 =>
    kept_row a0 c0 l x y v (hw.below hv) hF (by omega) hS h1 h2 h3 h4
  have HSZ : Hid (∀ v, Below w.heap.size w v → Calls Tryd.prog 64 #[.slice a0 l.length c0] v fun e w' => e = .returned (.int .i64 (szs l)) ∧ Below v.heap.size v w') := fun v hv => Size_any a0 c0 l v (hw.below hv) hF (by omega) hS
  rw [hQ]
  clear h hw hK hQ hF
  go_enter Tryd.func37, Tryd.ntmps37
  go_wp2
  go_loopg [5, 6, 7] xs.length (fun gk so sc si wr => ∃ (k : Nat) (c : Int) (p : List Rn), gk = xs.length - k ∧ k ≤ xs.length ∧ si = .int .i64 (k : Int) ∧ sc = .int .i64 c ∧ 0 ≤ c ∧ c ≤ 4611686018428436480 ∧ p.length ≤ k * 131075 ∧ p ++ dq l c (xs.drop k) = Q ∧ wr.ownsRow w.heap.size 94 4 so p.length (flatR p) ∧ Below w.heap.size w wr)
  case atStart => exact ⟨0, 0, [], by omega, Nat.zero_le _, rfl, rfl, Int.le_refl _, by omega, Nat.zero_le _, by simpa using HQ.out, World.ownsRow_nil _ _ _ _, Below.refl _ _⟩
  case round =>
    obtain ⟨k, c, p, rfl, hk, rfl, rfl, hc0, hc1, hpk, hpq, hown, hbel⟩ := hrel
    have HB : Hid (Below w.heap.size w wr) := hbel
    have HO : Hid (wr.ownsRow w.heap.size 94 4 u5 p.length (flatR p)) := hown
    have HP : Hid (p ++ dq l c (xs.drop k) = Q) := hpq
    clear hbel hown hpq
    by_cases hlt : k < xs.length
    · have hlt' : (k : Int) < (xs.length : Int) := by omega
      obtain ⟨e, he⟩ : ∃ e, xs[k]? = some e := ⟨_, List.getElem?_eq_getElem hlt⟩
      have heK := HK.out e (List.mem_of_getElem? he)
      have HNX : Hid (p ++ kq c e.f 0 l ++ [⟨false, 0, 0, e.s⟩] ++ dq l e.t (xs.drop (k + 1)) = Q) := by
        unfold Hid; rw [← HP.out, drop_get he, dq]; simp
      have hkl := kq_len c e.f 0 l
      obtain ⟨ba, oa, hab, hE⟩ : ∃ ba oa, a1 = some ⟨ba, oa, none⟩ ∧ Eds w ba oa xs := by
        rcases HX.out with h0 | h0
        · rw [h0] at hlt; simp at hlt
        · exact h0
      subst hab
      have HE : Hid (Eds w ba oa xs) := hE
      have HR : Hid (xs[k]? = some e) := he
      obtain ⟨q0, q1, q2⟩ := hE.cells HB.out he
      obtain ⟨R, hR⟩ : ∃ R, kq c e.f 0 l = R := ⟨_, rfl⟩
      have HKC : Hid (∀ v, Below w.heap.size w v → Calls Tryd.prog 63 #[.slice a0 l.length c0, .int .i64 c, .int .i64 e.f] v fun e w' => ∃ u, e = .returned u ∧ w'.ownsRow v.heap.size 94 4 u R.length (flatR R) ∧ Below v.heap.size v w') := fun v hv => by
        have := HKP.out v c e.f hv hc0 hc1 heK.1 (by omega)
        rw [hR] at this; exact this
      rw [hR] at hkl HNX
      clear hE he hR HKP
      go_wp2_with (first
        | (go_at_call 63; (refine (HKC.out _ HB.out).mono ?_); rintro e w3 ⟨x3, rfl, o3, hb3⟩; have HB3 : Hid (Below w.heap.size w w3) := HB.out.trans (hb3.mono HB.out.size); have HO3 : Hid (w3.ownsRow w.heap.size 94 4 u5 p.length (flatR p)) := ownsRow_below HO.out hb3 (Nat.le_refl _); obtain ⟨a3, k3, rfl, g3, -, n3⟩ := own_formR o3; have HR3 : Hid (RnA w3 a3 R) := g3; have HN3 : Hid (a3 = none → R.length = 0 ∧ k3 = 0) := n3; clear hb3 o3 g3 n3 q0 q1 q2)
        | (at_builtin; (refine wpList_append_own_any _ rfl (.tmp 14) (.tmp 22) 74 rfl w.heap.size 94 i0 (.agg #[.bool false, .int .i64 0, .int .i64 0, .string ⟨#[]⟩]) 4 40 Tryd.underlying74 hi hz0 hz1 hz2 rfl (by decide) _ _ _ rfl HO3.out a3 R.length k3 (flatR R) rfl (flatR_length _) HN3.out HR3.out.news (flatR_oneCell _) (by unfold maxLen; omega) (by omega) (by have := HB3.out.size; omega) ?_); intro v4 w4 hown4 hgrow4; have HB4 : Hid (Below w.heap.size w w4) := HB3.out.grown hgrow4 HB3.out.size (fun g h => (HO3.out.lt g h).1); have HO4 : Hid (w4.ownsRow w.heap.size 94 4 v4 (p.length + R.length) (flatR (p ++ R))) := (by unfold Hid; rw [flatR_append]; exact hown4); clear hown4 hgrow4; obtain ⟨q0, q1, q2⟩ := HE.out.cells HB4.out HR.out)
        | (at_builtin; ((refine wpList_append_own_any _ rfl (.tmp 24) (.tmp 31) 74 rfl w.heap.size 94 i0 (.agg #[.bool false, .int .i64 0, .int .i64 0, .string ⟨#[]⟩]) 4 40 Tryd.underlying74 hi hz0 hz1 hz2 rfl (by decide) _ _ _ rfl (HO4.out.alloc _) (some ⟨w4.heap.size, 0, none⟩) 1 1 (flatR [⟨false, 0, 0, e.s⟩]) rfl (by rfl) (fun h => by cases h) (fun ad had => by cases had; exact cells_new w4 (flatR [⟨false, 0, 0, e.s⟩]) 94) (flatR_oneCell _) (by unfold maxLen; omega) (by omega) (by have := HB4.out.size; simp; omega) ?_); intro v9 w9 hown9 hgrow9; have HB9 : Hid (Below w.heap.size w w9) := (HB4.out.alloc HB4.out.size _).grown hgrow9 (by have := HB4.out.size; simp; omega) (fun g h => (HO4.out.lt g h).1); have HO9 : Hid (w9.ownsRow w.heap.size 94 4 v9 (p ++ R ++ ([⟨false, 0, 0, e.s⟩] : List Rn)).length (flatR (p ++ R ++ ([⟨false, 0, 0, e.s⟩] : List Rn)))) := (by unfold Hid; rw [flatR_append, List.length_append, List.length_append]; exact hown9); clear hown9 hgrow9 q0 q1 q2; obtain ⟨q0, q1, q2⟩ := HE.out.cells HB9.out HR.out)))
      go_roundg (xs.length - (k + 1))
      case measure => omega
      case rel => exact ⟨k + 1, e.t, p ++ R ++ [⟨false, 0, 0, e.s⟩], rfl, by omega, by go_num, rfl, by omega, heK.2.2, by simp only [List.length_append, List.length_singleton]; omega, HNX.out, HO9.out, HB9.out⟩
    · have hge : ¬ (k : Int) < (xs.length : Int) := by omega
      have HNX : Hid (p ++ kq c (szs l) 0 l = Q) := by
        unfold Hid; rw [← HP.out, List.drop_eq_nil_of_le (by omega), dq]
      have hkl := kq_len c (szs l) 0 l
      obtain ⟨R, hR⟩ : ∃ R, kq c (szs l) 0 l = R := ⟨_, rfl⟩
      have HKC : Hid (∀ v, Below w.heap.size w v → Calls Tryd.prog 63 #[.slice a0 l.length c0, .int .i64 c, .int .i64 (szs l)] v fun e w' => ∃ u, e = .returned u ∧ w'.ownsRow v.heap.size 94 4 u R.length (flatR R) ∧ Below v.heap.size v w') := fun v hv => by
        have := HKP.out v c (szs l) hv hc0 hc1 hS0 hS
        rw [hR] at this; exact this
      rw [hR] at hkl HNX
      clear hR HKP
      go_wp2_with (first
        | (go_at_call 64; (refine (HSZ.out _ HB.out).mono ?_); rintro e w2 ⟨rfl, hb2⟩; have HB2 : Hid (Below w.heap.size w w2) := HB.out.trans (hb2.mono HB.out.size); have HO2 : Hid (w2.ownsRow w.heap.size 94 4 u5 p.length (flatR p)) := ownsRow_below HO.out hb2 (Nat.le_refl _); clear hb2)
        | (go_at_call 63; (refine (HKC.out _ HB2.out).mono ?_); rintro e w3 ⟨x3, rfl, o3, hb3⟩; have HB3 : Hid (Below w.heap.size w w3) := HB2.out.trans (hb3.mono HB2.out.size); have HO3 : Hid (w3.ownsRow w.heap.size 94 4 u5 p.length (flatR p)) := ownsRow_below HO2.out hb3 (Nat.le_refl _); obtain ⟨a3, k3, rfl, g3, -, n3⟩ := own_formR o3; have HR3 : Hid (RnA w3 a3 R) := g3; have HN3 : Hid (a3 = none → R.length = 0 ∧ k3 = 0) := n3; clear hb3 o3 g3 n3)
        | (at_builtin; (refine wpList_append_own_any _ rfl (.tmp 38) (.tmp 43) 74 rfl w.heap.size 94 i0 (.agg #[.bool false, .int .i64 0, .int .i64 0, .string ⟨#[]⟩]) 4 40 Tryd.underlying74 hi hz0 hz1 hz2 rfl (by decide) _ _ _ rfl HO3.out a3 R.length k3 (flatR R) rfl (flatR_length _) HN3.out HR3.out.news (flatR_oneCell _) (by unfold maxLen; omega) (by omega) (by have := HB3.out.size; omega) ?_); intro v4 w4 hown4 hgrow4; have HB4 : Hid (Below w.heap.size w w4) := HB3.out.grown hgrow4 HB3.out.size (fun g h => (HO3.out.lt g h).1); have HO4 : Hid (w4.ownsRow w.heap.size 94 4 v4 (p ++ R).length (flatR (p ++ R))) := (by unfold Hid; rw [flatR_append, List.length_append]; exact hown4); clear hown4 hgrow4))
      go_ret
      exact ⟨_, rfl, by rw [← HNX.out]; exact HO4.out, HB4.out⟩
end Go.Proofs.YteolfolkolpehaaDoor
