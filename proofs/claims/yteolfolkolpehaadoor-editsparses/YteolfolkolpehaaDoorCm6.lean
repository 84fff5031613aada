import Derived.Test.YteolfolkolpehaaDoorCm5
namespace Go.Proofs.YteolfolkolpehaaDoor
open Go.ChangeShapes Go.WideShapes Go.ChangeAt Go.RowKit
set_option linter.unusedVariables false

theorem grw_ge {size L a : Int} {xs : List Ed} (h : chk size L xs = 0) (ha : a ≤ L) (hs : a ≤ size) : a - size ≤ grw xs := by
  induction xs generalizing L a with
  | nil => rw [grw]; omega
  | cons e r ih =>
    obtain ⟨h1, h2, h3, h4, h5⟩ := chk_cons h
    have := ih (a := e.t) h5 (by omega) h3
    rw [grw]; omega

theorem chk_pre {size L : Int} {xs : List Ed} (h : chk size L xs = 0) (k : Nat) : chk size L (xs.take k) = 0 := by
  induction xs generalizing L k with
  | nil => simp [chk]
  | cons e r ih =>
    obtain ⟨h1, h2, h3, h4, h5⟩ := chk_cons h
    cases k with
    | zero => rfl
    | succ k => rw [List.take_succ_cons, chk, if_pos ⟨h1, h2, h3⟩, if_neg (by omega)]; exact ih h5 k

theorem lay_tots (m : Int) (xs : List Ed) : tots (lay m xs) = tots xs := by
  induction xs generalizing m with
  | nil => rfl
  | cons e r ih => rw [lay, tots, tots, ih]

theorem lay_nm {size L at' m : Int} {xs : List Ed} (h : chk size L xs = 0) (ha : at' ≤ L) (hs : at' ≤ size) (hm : 0 ≤ at' + m) : ∀ e ∈ lay m xs, 0 ≤ e.f ∧ e.t = e.f + e.s.size ∧ e.t ≤ size + m + grw xs := by
  induction xs generalizing L at' m with
  | nil => intro e he; cases he
  | cons x r ih =>
    obtain ⟨h1, h2, h3, h4, h5⟩ := chk_cons h
    have hg := grw_ge (a := x.t) h5 (by omega) h3
    intro e he
    rw [lay] at he
    rcases List.mem_cons.1 he with rfl | he
    · refine ⟨by simp only; omega, rfl, ?_⟩
      simp only [grw]; omega
    · have := ih (at' := x.t) (m := m + ((x.s.size : Int) - (x.t - x.f))) h5 (by omega) h3 (by omega) e he
      rw [grw]
      omega

theorem grw_top {size : Int} {xs : List Ed} (h : chk size 0 xs = 0) (hs : 0 ≤ size) (k : Nat) : -size ≤ grw (xs.take k) ∧ grw (xs.take k) ≤ tots xs ∧ size + grw xs - grw (xs.take k) ≤ size + tots xs := by
  have h1 := grw_ge (a := 0) (chk_pre h k) (Int.le_refl _) hs
  have h2 := grw_le (xs.take k) fun e he => (chk_ok h e (List.mem_of_mem_take he)).2.1
  have h3 := tots_take xs k
  have h4 := grw_le (xs.drop k) fun e he => (chk_ok h e (List.mem_of_mem_drop he)).2.1
  have h5 := tots_drop xs k
  have h6 : grw xs = grw (xs.take k) + grw (xs.drop k) := by
    conv => lhs; rw [← List.take_append_drop k xs]
    rw [grw_app2]
  omega

theorem own_formC {w : World} {base e n : Nat} {v : Value} {xs : List Ed} (h : w.ownsRow base e 3 v n (flat xs)) : ∃ a cap, v = .slice a xs.length cap ∧ EdsC w a cap xs := by
  have hn : n = xs.length := by have := h.1; rw [flat_length] at this; omega
  subst hn
  rcases h.2 with ⟨h1, h2⟩ | ⟨g, cap, cur, hv, hg, hh, hc, r⟩
  · exact ⟨none, 0, by rw [h1, h2], .inl (List.eq_nil_of_length_eq_zero h2)⟩
  · subst hv
    exact ⟨some ⟨g, 0, none⟩, cap, rfl, .inr ⟨g, 0, rfl, hc, Eds.own h⟩⟩

theorem own_base {w : World} {base base' e size n : Nat} {v : Value} {xs : List Value} (h : w.ownsRow base e size v n xs) (hb : base' ≤ base) : w.ownsRow base' e size v n xs := by
  refine ⟨h.1, ?_⟩
  rcases h.2 with h2 | ⟨g, cap, cur, h3, h4, r⟩
  · exact .inl h2
  · exact .inr ⟨g, cap, cur, h3, Nat.le_trans hb h4, r⟩

set_option maxHeartbeats 400000 in
theorem layOut_nil (a : Option Addr) (cap : Nat) (w : World) : Calls Tryd.prog 41 #[.slice a 0 cap] w fun e w' => e = .returned (.slice none 0 0) ∧ w = w' := by
  go_enter Tryd.func41, Tryd.ntmps41
  go_wp2
  refine wp_loop_rounds 1 ?_
  rw [rounds_succ]
  go_wp2
  go_ret
  exact ⟨rfl, rfl⟩

theorem layOut_all (a : Option Addr) (cap : Nat) (xs : List Ed) (w : World) (h : EdsC w a cap xs) (hl : xs.length ≤ 65536) (hsb : ∀ e ∈ xs, 0 ≤ e.f ∧ e.f ≤ e.t ∧ e.t ≤ 4611686018427387904 ∧ e.s.size ≤ 1048576) (hg : ∀ k, -4611686018427387904 ≤ grw (xs.take k) ∧ grw (xs.take k) ≤ 1048576) :
    Calls Tryd.prog 41 #[.slice a xs.length cap] w fun e w' => ∃ a' c', e = .returned (.slice a' xs.length c') ∧ EdsC w' a' c' (lay 0 xs) ∧ Below w.heap.size w w' := by
  rcases h with rfl | ⟨b, o, rfl, hc, h⟩
  · refine (layOut_nil a cap w).mono ?_
    rintro e w' ⟨rfl, rfl⟩
    exact ⟨none, 0, rfl, .inl rfl, Below.refl _ _⟩
  · refine (layOut_any b o cap xs w h hl hsb hg).mono ?_
    rintro e w' ⟨v, rfl, hown, hb⟩
    obtain ⟨a', c', rfl, hE⟩ := own_formC hown
    exact ⟨a', c', by rw [lay_len], hE, hb⟩

/-- Compose's list and its error -/
def cmpL (size : Int) (a b : List Ed) : List Ed := if val62 size a = 0 ∧ vld (size + grw a) b = 0 ∧ (gr (a.length + b.length) (lay 0 a) a b 0).length ≤ 65536 then gr (a.length + b.length) (lay 0 a) a b 0 else []
def cmpE (size : Int) (a b : List Ed) : Int := if val62 size a = 0 then (if vld (size + grw a) b = 0 then (if (gr (a.length + b.length) (lay 0 a) a b 0).length ≤ 65536 then 0 else 2) else vld (size + grw a) b) else val62 size a

theorem val62_ok {size : Int} {xs : List Ed} (h : val62 size xs = 0) : 0 ≤ size ∧ size ≤ 4611686018427387904 ∧ vld size xs = 0 := by
  unfold val62 at h
  by_cases hc : 0 ≤ size ∧ size ≤ 4611686018427387904
  · rw [if_pos hc] at h; exact ⟨hc.1, hc.2, h⟩
  · rw [if_neg hc] at h; omega

set_option maxRecDepth 1000000 in
set_option maxHeartbeats 2000000 in
theorem compose_any (size : Int) (a1 a2 : Option Addr) (c1 c2 : Nat) (a b : List Ed) (w : World) (hs0 : -9223372036854775808 ≤ size) (hs1 : size ≤ 9223372036854775807) (h1 : EdsC w a1 c1 a) (h2 : EdsC w a2 c2 b) (hl1 : a.length ≤ maxLen) (hl2 : b.length ≤ maxLen)
    (hF : ∀ e ∈ a, EdFit e) (hTa : tots a ≤ 1048576) (hTb : tots b ≤ 1048576) :
    Calls Tryd.prog 17 #[.int .i64 size, .slice a1 a.length c1, .slice a2 b.length c2] w fun e w' => ∃ v, e = .returned (.tuple #[v, .int .i64 (cmpE size a b)]) ∧ w'.ownsRow w.heap.size 45 3 v (cmpL size a b).length (flat (cmpL size a b)) ∧ Below w.heap.size w w' := by
  have HFit : Hid (∀ e ∈ a, EdFit e) := hF
  have H1 : Hid (EdsC w a1 c1 a) := h1
  have H2 : Hid (EdsC w a2 c2 b) := h2
  have HL1 : Hid (a.length ≤ maxLen) := hl1
  have HL2 : Hid (b.length ≤ maxLen) := hl2
  unfold maxLen at hl1 hl2
  clear h1 h2
  by_cases hv : val62 size a = 0
  · obtain ⟨s0, s1, hv1⟩ := val62_ok hv
    obtain ⟨hck, hlen⟩ := vld_chk hv1
    have hG := grw_top hck s0
    have hK := chk_ok hck
    have hgl := grw_le a fun e he => (hK e he).2.1
    have hgg := grw_ge (a := 0) hck (Int.le_refl _) s0
    obtain ⟨g, hg⟩ : ∃ g, grw a = g := ⟨_, rfl⟩
    rw [hg] at hgl hgg
    have HGA : Hid (grw a = g) := hg
    have HV : Hid (val62 size a = 0) := hv
    have hwg : Hid (wrap64 g = g) := IntWalk.wrap64_in _ ⟨by omega, by omega⟩
    have hgc : Hid (∀ w', Below w.heap.size w w' → Calls Tryd.prog 34 #[.slice a1 a.length c1] w' fun e w'' => e = .returned (.int .i64 g) ∧ Below w'.heap.size w' w'') := by
      intro w' hb
      have := growth_all a1 c1 a w' (H1.out.below hb).all (by omega) hF (fun e he => ⟨(hK e he).1, (hK e he).2.1, by have := (hK e he).2.2; omega⟩)
      rw [HGA.out, hwg.out] at this
      exact this
    by_cases hb : vld (size + g) b = 0
    · obtain ⟨hckb, hlenb⟩ := vld_chk hb
      have hKb := chk_ok hckb
      obtain ⟨G, hGd⟩ : ∃ G, gr (a.length + b.length) (lay 0 a) a b 0 = G := ⟨_, rfl⟩
      have HGD : Hid (gr (a.length + b.length) (lay 0 a) a b 0 = G) := hGd
      have hE : cmpE size a b = if G.length ≤ 65536 then 0 else 2 := by unfold cmpE; rw [if_pos hv, hg, if_pos hb, hGd]
      have hLL : cmpL size a b = if G.length ≤ 65536 then G else [] := by
        unfold cmpL; rw [hg, hGd]
        by_cases h : G.length ≤ 65536
        · rw [if_pos h, if_pos ⟨hv, hb, h⟩]
        · rw [if_neg h, if_neg (fun x => h x.2.2)]
      have hlay : Hid (∀ w', Below w.heap.size w w' → Calls Tryd.prog 41 #[.slice a1 a.length c1] w' fun e w'' => ∃ a' c', e = .returned (.slice a' a.length c') ∧ EdsC w'' a' c' (lay 0 a) ∧ Below w'.heap.size w' w'') := by
        intro w' hb'
        refine layOut_all a1 c1 a w' (H1.out.below hb') hlen (fun e he => ⟨(hK e he).1, (hK e he).2.1, by have := (hK e he).2.2; omega, ?_⟩) (fun k => ?_)
        · have := mem_tots he; omega
        · have := hG k; omega
      have hnm := lay_nm (m := 0) hck (Int.le_refl 0) s0 (by omega)
      rw [hg] at hnm
      have hgr : Hid (∀ w' a' c', Below w.heap.size w w' → EdsC w' a' c' (lay 0 a) → Calls Tryd.prog 40 #[.slice a' a.length c', .slice a1 a.length c1, .slice a2 b.length c2] w' fun e w'' => ∃ v, e = .returned v ∧ w''.ownsRow w'.heap.size 45 3 v G.length (flat G) ∧ Below w'.heap.size w' w'') := by
        intro w' a' c' hb' hE'
        have := groups_any (size + g) a' a1 a2 c' c1 c2 (lay 0 a) a b w' hE' (H1.out.below hb') (H2.out.below hb') (lay_len 0 a) hlen hlenb ⟨by omega, by omega⟩ (fun e he => ⟨(hnm e he).1, (hnm e he).2.1, by have := (hnm e he).2.2; omega⟩) (fun e he => ⟨(hnm e he).1, by have := (hnm e he).2.1; omega, by have := (hnm e he).2.2; omega⟩)
          (fun e he => ⟨(hKb e he).1, by have := hKb e he; omega, by have := hKb e he; omega, by have := hKb e he; omega, by have := mem_tots he; omega⟩) (fun e he => hKb e he) HFit.out (fun e he => ⟨(hK e he).1, (hK e he).2.1, by have := (hK e he).2.2; omega⟩) (by rw [lay_tots]; exact hTa) (fun k => by have := hG k; rw [hg] at this; omega)
        rw [lay_len, HGD.out] at this
        exact this
      have HVB : Hid (vld (size + g) b = 0) := hb
      have hGl : Hid (∀ {w' : World} {base e n : Nat} {v : Value}, w'.ownsRow base e 3 v n (flat G) → ∃ a' c', v = .slice a' G.length c') := fun h => by
        obtain ⟨a', c', h1, _⟩ := own_formC h
        exact ⟨a', c', h1⟩
      clear hck hlen hG hK hg hv hv1 hckb hlenb hKb hGd hnm hb
      go_enter Tryd.func17, Tryd.ntmps17
      go_wp2_with fail
      refine (valid_all size a1 c1 a _ hs0 hs1 H1.out.all HL1.out).mono ?_
      rintro e w1 ⟨rfl, hb1⟩
      rw [HV.out]
      have HB1 : Hid (Below w.heap.size w w1) := hb1
      go_wp2_with fail
      refine (hgc.out _ HB1.out).mono ?_
      rintro e w2 ⟨rfl, hb2⟩
      have HB2 : Hid (Below w.heap.size w w2) := HB1.out.trans (hb2.mono HB1.out.size)
      go_wp2_with fail
      refine (wrong_all (size + g) a2 c2 b _ (by omega) (by omega) (H2.out.below HB2.out).all HL2.out).mono ?_
      rintro e w3 ⟨rfl, hb3⟩
      rw [HVB.out]
      have HB3 : Hid (Below w.heap.size w w3) := HB2.out.trans (hb3.mono HB2.out.size)
      go_wp2_with fail
      refine (hlay.out _ HB3.out).mono ?_
      rintro e w4 ⟨a', c', rfl, hE4, hb4⟩
      have HB4 : Hid (Below w.heap.size w w4) := HB3.out.trans (hb4.mono HB3.out.size)
      have HE4 : Hid (EdsC w4 a' c' (lay 0 a)) := hE4
      clear hE4 hb1 hb2 hb3 hb4
      go_wp2_with fail
      refine (hgr.out _ a' c' HB4.out HE4.out).mono ?_
      rintro e w5 ⟨v5, rfl, hown5, hb5⟩
      have HB5 : Hid (Below w.heap.size w w5) := HB4.out.trans (hb5.mono HB4.out.size)
      have HO5 : Hid (w5.ownsRow w.heap.size 45 3 v5 G.length (flat G)) := own_base hown5 HB4.out.size
      obtain ⟨a6, c6, rfl⟩ := hGl.out hown5
      clear hown5 hb5
      by_cases hGG : G.length ≤ 65536
      · rw [if_pos hGG] at hE hLL
        have HE : Hid (cmpE size a b = 0) := hE
        have HLL : Hid (cmpL size a b = G) := hLL
        clear hE hLL
        go_wp2
        go_ret2
        exact ⟨_, by rw [HE.out]; rfl, by rw [HLL.out]; exact HO5.out, HB5.out⟩
      · rw [if_neg hGG] at hE hLL
        have HE : Hid (cmpE size a b = 2) := hE
        have HLL : Hid (cmpL size a b = []) := hLL
        clear hE hLL
        go_wp2
        go_ret2
        exact ⟨_, by rw [HE.out]; rfl, by rw [HLL.out]; exact World.ownsRow_nil _ _ _ _, HB5.out⟩
    · have HE : Hid (cmpE size a b = vld (size + g) b) := by unfold Hid cmpE; rw [if_pos hv, hg, if_neg hb]
      have HLL : Hid (cmpL size a b = []) := by unfold Hid cmpL; rw [if_neg (by rw [hg]; exact fun h => hb h.2.1)]
      have hbne : (vld (size + g) b == 0) = false := by rw [beq_eq_false_iff_ne]; exact hb
      obtain ⟨vb, hvb⟩ : ∃ vb, vld (size + g) b = vb := ⟨_, rfl⟩
      rw [hvb] at hbne HE
      have HVB : Hid (vld (size + g) b = vb) := hvb
      clear hb hvb hck hlen hG hK hg hv hv1
      go_enter Tryd.func17, Tryd.ntmps17
      go_wp2_with fail
      refine (valid_all size a1 c1 a _ hs0 hs1 H1.out.all HL1.out).mono ?_
      rintro e w1 ⟨rfl, hb1⟩
      rw [HV.out]
      have HB1 : Hid (Below w.heap.size w w1) := hb1
      go_wp2_with fail
      refine (hgc.out _ HB1.out).mono ?_
      rintro e w2 ⟨rfl, hb2⟩
      have HB2 : Hid (Below w.heap.size w w2) := HB1.out.trans (hb2.mono HB1.out.size)
      go_wp2_with fail
      refine (wrong_all (size + g) a2 c2 b _ (by omega) (by omega) (H2.out.below HB2.out).all HL2.out).mono ?_
      rintro e w3 ⟨rfl, hb3⟩
      rw [HVB.out]
      have HB3 : Hid (Below w.heap.size w w3) := HB2.out.trans (hb3.mono HB2.out.size)
      go_wp2
      go_ret2
      exact ⟨_, by rw [HE.out]; rfl, by rw [HLL.out]; exact World.ownsRow_nil _ _ _ _, HB3.out⟩
  · have HE : Hid (cmpE size a b = val62 size a) := by unfold Hid cmpE; rw [if_neg hv]
    have HLL : Hid (cmpL size a b = []) := by unfold Hid cmpL; rw [if_neg (fun h => hv h.1)]
    have hbne : (val62 size a == 0) = false := by rw [beq_eq_false_iff_ne]; exact hv
    obtain ⟨va, hva⟩ : ∃ va, val62 size a = va := ⟨_, rfl⟩
    rw [hva] at hbne HE
    have HVA : Hid (val62 size a = va) := hva
    clear hv hva
    go_enter Tryd.func17, Tryd.ntmps17
    go_wp2_with fail
    refine (valid_all size a1 c1 a _ hs0 hs1 H1.out.all HL1.out).mono ?_
    rintro e w1 ⟨rfl, hb1⟩
    rw [HVA.out]
    go_wp2
    go_ret2
    exact ⟨_, by rw [HE.out]; rfl, by rw [HLL.out]; exact World.ownsRow_nil _ _ _ _, hb1⟩
end Go.Proofs.YteolfolkolpehaaDoor
