import Derived.Test.YtniamjbieciilaaChainW
import Derived.Test.YtniamjbieciilaaW3
namespace Go.Proofs.Ytniamjbieciilaa
open Go.ChangeShapes Go.WideShapes Go.ChangeAt Go.RowKit
set_option linter.unusedVariables false

theorem compose_row (size : Int) (X Y : List Ed) (hs0 : 0 ≤ size) (hs1 : size ≤ 1048576) (hlX : X.length ≤ 1048576) (hlY : Y.length ≤ 1048576) (hF : ∀ e ∈ X, EdFit e) (hTX : tots X ≤ 1048576) (hTY : tots Y ≤ 1048576) (a1 a2 : Option Addr) (c1 c2 : Nat) (v : World) (h1 : EdsC v a1 c1 X) (h2 : EdsC v a2 c2 Y) :
    Calls Try.prog 13 #[.int .i64 size, .slice a1 X.length c1, .slice a2 Y.length c2] v fun e w' => ∃ a' c', e = .returned (.tuple #[.slice a' (cmpL size X Y).length c', .int .i64 (cmpE size X Y)]) ∧ EdsC w' a' c' (cmpL size X Y) ∧ Below v.heap.size v w' := by
  refine (compose_any size a1 a2 c1 c2 X Y v (by omega) (by omega) h1 h2 (by unfold maxLen; omega) (by unfold maxLen; omega) hF hTX hTY).mono ?_
  rintro e w' ⟨u, rfl, ho, hb⟩
  obtain ⟨a', c', rfl, hE⟩ := own_formC ho
  exact ⟨a', c', rfl, hE, hb⟩

theorem chain_fit {size : Nat} {l : List Ed} (h : chk size 0 l = 0) (hs : size ≤ 1048576) (hT : tots l ≤ 1048576) : ∀ e ∈ l, EdFit e := by
  intro e he
  have h1 := chk_ok h e he
  have h2 : e.s.size ≤ tots l := by
    have : ∀ {l : List Ed}, e ∈ l → e.s.size ≤ tots l := by
      intro l
      induction l with
      | nil => intro h; cases h
      | cons x r ih =>
        intro h
        rw [tots]
        rcases List.mem_cons.1 h with rfl | h
        · omega
        · have := ih h; omega
    exact this he
  unfold EdFit
  omega

theorem cmpL_short (size : Int) (a b : List Ed) : (cmpL size a b).length ≤ 65536 := by
  unfold cmpL
  split
  · rename_i h; exact h.2.2
  · simp

set_option maxRecDepth 1000000 in
set_option maxHeartbeats 4000000 in
theorem editsChain_walk (tx : ByteArray) (a1 : Option Addr) (c1 : Nat) (a : List Ed) (a2 : Option Addr) (c2 : Nat) (b : List Ed) (a3 : Option Addr) (c3 : Nat) (c : List Ed) (w : World) (hx : tx.size ≤ 140737488351232)
    (h1 : EdsA w a1 a) (hF1 : ∀ e ∈ a, EdFit e) (hn1 : a1 = none → a.length = 0 ∧ c1 = 0) (hl1 : a.length * 32 ≤ 140737488351232) (hC1 : a.length ≤ c1)
    (h2 : EdsA w a2 b) (hF2 : ∀ e ∈ b, EdFit e) (hn2 : a2 = none → b.length = 0 ∧ c2 = 0) (hl2 : b.length * 32 ≤ 140737488351232) (hC2 : b.length ≤ c2)
    (h3 : EdsA w a3 c) (hF3 : ∀ e ∈ c, EdFit e) (hn3 : a3 = none → c.length = 0 ∧ c3 = 0) (hl3 : c.length * 32 ≤ 140737488351232) (hC3 : c.length ≤ c3) (hB : tx.size + (4 * a.length + tot a) + (4 * b.length + tot b) + (4 * c.length + tot c) ≤ 1048576) :
    Calls Try.prog 4 #[.string tx, .slice a1 a.length c1, .slice a2 b.length c2, .slice a3 c.length c3] w fun e w' => e = .returned (.bool true) ∧ Below w.heap.size w w' := by
  have HA : Hid (EdsC w a1 c1 a) := h1.room hC1
  have HBb : Hid (EdsC w a2 c2 b) := h2.room hC2
  have HCc : Hid (EdsC w a3 c3 c) := h3.room hC3
  have HF1 : Hid (∀ e ∈ a, EdFit e) := hF1
  have HF2 : Hid (∀ e ∈ b, EdFit e) := hF2
  have hT0 : tx.size + tots a + tots b + tots c ≤ 1048576 := by rw [tots_tot, tots_tot, tots_tot]; omega
  have hla : a.length ≤ 1048576 := by omega
  have hlb : b.length ≤ 1048576 := by omega
  have hlc : c.length ≤ 1048576 := by omega
  have hn : tx.size ≤ 1048576 := by omega
  have HLa : Hid (a.length ≤ maxLen) := by unfold Hid maxLen; omega
  have HLb : Hid (b.length ≤ maxLen) := by unfold Hid maxLen; omega
  clear h1 h2 h3 hn1 hn2 hn3 hF1 hF2 hF3 hl1 hl2 hl3 hC1 hC2 hC3 hB
  have HAP : Hid (∀ v, Below w.heap.size w v → Calls Try.prog 11 #[.string tx, .slice a1 a.length c1] v fun e w' => e = .returned (.tuple #[.string (appB tx a), .int .i64 (vld tx.size a)]) ∧ Below v.heap.size v w') := fun v hv =>
    apply_all tx a1 c1 a v hx (HA.out.below hv).all HLa.out HF1.out (by omega)
  have HAB : Hid (∀ v, Below w.heap.size w v → Calls Try.prog 13 #[.int .i64 tx.size, .slice a1 a.length c1, .slice a2 b.length c2] v fun e w' => ∃ a' c', e = .returned (.tuple #[.slice a' (cmpL tx.size a b).length c', .int .i64 (cmpE tx.size a b)]) ∧ EdsC w' a' c' (cmpL tx.size a b) ∧ Below v.heap.size v w') := fun v hv =>
    compose_row tx.size a b (by omega) (by omega) hla hlb HF1.out (by omega) (by omega) a1 a2 c1 c2 v (HA.out.below hv) (HBb.out.below hv)
  by_cases hva : vld tx.size a = 0
  · rw [hva] at HAP
    have hF := chain_facts (tx := tx) (a := a) (b := b) (c := c) hn hT0 hva
    obtain ⟨e1, e2, e3, e4⟩ := cmp_nil (n := tx.size) (by omega) hva
    have hsz := hF.sz
    have hgl : grw a ≤ tots a := grw_le a fun e he => (chk_ok (vld_chk hva).1 e he).2.1
    have HAN : Hid (∀ v, Below w.heap.size w v → Calls Try.prog 13 #[.int .i64 tx.size, .slice a1 a.length c1, .slice none 0 0] v fun e w' => ∃ a' c', e = .returned (.tuple #[.slice a' a.length c', .int .i64 0]) ∧ EdsC w' a' c' a ∧ Below v.heap.size v w') := fun v hv => by
      have := compose_row tx.size a [] (by omega) (by omega) hla (by simp) HF1.out (by omega) (by simp [tots]) a1 none c1 0 v (HA.out.below hv) (.inl rfl)
      rw [e1, e2] at this; exact this
    have HNA : Hid (∀ v, Below w.heap.size w v → Calls Try.prog 13 #[.int .i64 tx.size, .slice none 0 0, .slice a1 a.length c1] v fun e w' => ∃ a' c', e = .returned (.tuple #[.slice a' a.length c', .int .i64 0]) ∧ EdsC w' a' c' a ∧ Below v.heap.size v w') := fun v hv => by
      have := compose_row tx.size [] a (by omega) (by omega) (by simp) hla (by simp) (by simp [tots]) (by omega) none a1 0 c1 v (.inl rfl) (HA.out.below hv)
      rw [e3, e4] at this; exact this
    obtain ⟨S, hS⟩ : ∃ S, appB tx a = S := ⟨_, rfl⟩
    rw [hS] at HAP hsz
    have hSs : S.size ≤ 1048576 := by omega
    have hSt : S.size + tots b + tots c ≤ 1048576 := by omega
    have hF' := hF
    obtain ⟨-, fab, fmany, fwrong, fthree⟩ := hF'
    rw [hS] at fab fmany fwrong fthree
    have HAS : Hid (∀ v, Below w.heap.size w v → Calls Try.prog 11 #[.string S, .slice a2 b.length c2] v fun e w' => e = .returned (.tuple #[.string (appB S b), .int .i64 (vld S.size b)]) ∧ Below v.heap.size v w') := fun v hv =>
      apply_all S a2 c2 b v (by omega) (HBb.out.below hv).all HLb.out HF2.out (by omega)
    have HBC : Hid (∀ v, Below w.heap.size w v → Calls Try.prog 13 #[.int .i64 S.size, .slice a2 b.length c2, .slice a3 c.length c3] v fun e w' => ∃ a' c', e = .returned (.tuple #[.slice a' (cmpL S.size b c).length c', .int .i64 (cmpE S.size b c)]) ∧ EdsC w' a' c' (cmpL S.size b c) ∧ Below v.heap.size v w') := fun v hv =>
      compose_row S.size b c (by omega) (by omega) hlb hlc HF2.out (by omega) (by omega) a2 a3 c2 c3 v (HBb.out.below hv) (HCc.out.below hv)
    have HVA : Hid (vld tx.size a = 0) := hva
    clear hF e1 e2 e3 e4 hva hsz
    obtain ⟨AB, hAB⟩ : ∃ AB, cmpL tx.size a b = AB := ⟨_, rfl⟩
    obtain ⟨EAB, hEAB⟩ : ∃ EAB, cmpE tx.size a b = EAB := ⟨_, rfl⟩
    have hABl : AB.length ≤ 65536 := by rw [← hAB]; exact cmpL_short _ _ _
    rw [hAB, hEAB] at HAB fab fthree
    rw [hEAB] at fmany fwrong
    obtain ⟨vb, hvb⟩ : ∃ vb, vld S.size b = vb := ⟨_, rfl⟩
    rw [hvb] at HAS fab fmany fwrong fthree
    clear hAB hEAB
    by_cases hb0 : vb = 0
    · subst hb0
      by_cases hE0 : EAB = 0
      · subst hE0
        obtain ⟨z1, z2, z3, z4⟩ := fab rfl rfl
        have hABc := (vld_chk z1).1
        have HABF : Hid (∀ e ∈ AB, EdFit e) := chain_fit hABc hn (by omega)
        have HZ1 : Hid (vld tx.size AB = 0) := z1
        have HZ2 : Hid (appB tx AB = appB S b) := z2
        have HLab : Hid (AB.length ≤ maxLen) := by unfold Hid maxLen; omega
        have hz3 : (AB.length : Int) ≤ (a.length : Int) + (b.length : Int) := by omega
        have HAA : Hid (∀ v x k, EdsA v x AB → Calls Try.prog 11 #[.string tx, .slice x AB.length k] v fun e w' => e = .returned (.tuple #[.string (appB S b), .int .i64 0]) ∧ Below v.heap.size v w') := fun v x k hv => by
          have := apply_all tx x k AB v hx hv HLab.out HABF.out (by omega)
          rw [z1, z2] at this; exact this
        obtain ⟨BC, hBC⟩ : ∃ BC, cmpL S.size b c = BC := ⟨_, rfl⟩
        obtain ⟨EBC, hEBC⟩ : ∃ EBC, cmpE S.size b c = EBC := ⟨_, rfl⟩
        have hBCl : BC.length ≤ 65536 := by rw [← hBC]; exact cmpL_short _ _ _
        rw [hBC, hEBC] at HBC fthree
        clear hBC hEBC fab fmany fwrong z1 z2 z3 hABc hvb
        by_cases hE1 : EBC = 0
        · subst hE1
          obtain ⟨t1, t2, t3⟩ := fthree rfl rfl rfl
          have HF1c : Hid (∀ v x k, Below w.heap.size w v → EdsC v x k AB → Calls Try.prog 13 #[.int .i64 tx.size, .slice x AB.length k, .slice a3 c.length c3] v fun e w' => ∃ a' c', e = .returned (.tuple #[.slice a' (cmpL tx.size AB c).length c', .int .i64 (cmpE tx.size AB c)]) ∧ EdsC w' a' c' (cmpL tx.size AB c) ∧ Below v.heap.size v w') := fun v x k hv h =>
            compose_row tx.size AB c (by omega) (by omega) (by omega) hlc HABF.out (by omega) (by omega) x a3 k c3 v h (HCc.out.below hv)
          have HF2c : Hid (∀ v x k, Below w.heap.size w v → EdsC v x k BC → Calls Try.prog 13 #[.int .i64 tx.size, .slice a1 a.length c1, .slice x BC.length k] v fun e w' => ∃ a' c', e = .returned (.tuple #[.slice a' (cmpL tx.size AB c).length c', .int .i64 (cmpE tx.size AB c)]) ∧ EdsC w' a' c' (cmpL tx.size AB c) ∧ Below v.heap.size v w') := fun v x k hv h => by
            have := compose_row tx.size a BC (by omega) (by omega) hla (by omega) HF1.out (by omega) (by omega) a1 x c1 k v (HA.out.below hv) h
            rw [← t1, ← t2] at this; exact this
          obtain ⟨F, hFd⟩ : ∃ F, cmpL tx.size AB c = F := ⟨_, rfl⟩
          obtain ⟨EF, hEFd⟩ : ∃ EF, cmpE tx.size AB c = EF := ⟨_, rfl⟩
          have HFl : Hid (F.length ≤ maxLen) := by unfold Hid maxLen; rw [← hFd]; have := cmpL_short tx.size AB c; omega
          rw [hFd, hEFd] at HF1c HF2c
          have hEE : (EF == EF) = true := by simp
          clear hFd hEFd t1 t2 t3 fthree
          go_enter Try.func4, Try.ntmps4
          go_wp2_with (first
            | (go_at_call 11; (with_reducible refine (HAP.out _ (Below.refl _ _)).mono ?_); rintro e w1 ⟨rfl, hb1⟩; have HB1 : Hid (Below w.heap.size w w1) := hb1; clear hb1)
            | (go_at_call 13; (with_reducible refine (HAN.out _ HB1.out).mono ?_); rintro e w2 ⟨x2, k2, rfl, g2, hb2⟩; have HB2 : Hid (Below w.heap.size w w2) := HB1.out.trans (hb2.mono HB1.out.size); have HE2 : Hid (EdsA w2 x2 a) := g2.all; clear hb2 g2)
            | (go_at_call 13; (with_reducible refine (HNA.out _ HB2.out).mono ?_); rintro e w3 ⟨x3, k3, rfl, g3, hb3⟩; have HB3 : Hid (Below w.heap.size w w3) := HB2.out.trans (hb3.mono HB2.out.size); have HE3 : Hid (EdsA w3 x3 a) := g3.all; have HE23 : Hid (EdsA w3 x2 a) := HE2.out.below hb3; clear hb3 g3)
            | (go_at_call 10; (with_reducible refine (same_any _ _ _ _ a _ HE23.out (HA.out.below HB3.out).all HLa.out).mono ?_); rintro e w4 ⟨rfl, hb4⟩; have HB4 : Hid (Below w.heap.size w w4) := HB3.out.trans (hb4.mono HB3.out.size); have HE34 : Hid (EdsA w4 x3 a) := HE3.out.below hb4; clear hb4 HE23)
            | (go_at_call 10; (with_reducible refine (same_any _ _ _ _ a _ HE34.out (HA.out.below HB4.out).all HLa.out).mono ?_); rintro e w5 ⟨rfl, hb5⟩; have HB5 : Hid (Below w.heap.size w w5) := HB4.out.trans (hb5.mono HB4.out.size); clear hb5)
            | (go_at_call 11; (with_reducible refine (HAS.out _ HB5.out).mono ?_); rintro e w6 ⟨rfl, hb6⟩; have HB6 : Hid (Below w.heap.size w w6) := HB5.out.trans (hb6.mono HB5.out.size); clear hb6)
            | (go_at_call 13; (with_reducible refine (HAB.out _ HB6.out).mono ?_); rintro e w7 ⟨x7, k7, rfl, g7, hb7⟩; have HB7 : Hid (Below w.heap.size w w7) := HB6.out.trans (hb7.mono HB6.out.size); have HE7 : Hid (EdsC w7 x7 k7 AB) := g7; clear hb7 g7)
            | (go_at_call 11; (with_reducible refine (HAA.out _ _ _ HE7.out.all).mono ?_); rintro e w8 ⟨rfl, hb8⟩; have HB8 : Hid (Below w.heap.size w w8) := HB7.out.trans (hb8.mono HB7.out.size); have HE8 : Hid (EdsC w8 x7 k7 AB) := HE7.out.below hb8; clear hb8)
            | (go_at_call 13; (with_reducible refine (HBC.out _ HB8.out).mono ?_); rintro e w9 ⟨x9, k9, rfl, g9, hb9⟩; have HB9 : Hid (Below w.heap.size w w9) := HB8.out.trans (hb9.mono HB8.out.size); have HE9 : Hid (EdsC w9 x9 k9 BC) := g9; have HE89 : Hid (EdsC w9 x7 k7 AB) := HE8.out.below hb9; clear hb9 g9)
            | (go_at_call 13; (with_reducible refine (HF1c.out _ _ _ HB9.out HE89.out).mono ?_); rintro e w10 ⟨x10, k10, rfl, g10, hb10⟩; have HB10 : Hid (Below w.heap.size w w10) := HB9.out.trans (hb10.mono HB9.out.size); have HE10 : Hid (EdsA w10 x10 F) := g10.all; have HE910 : Hid (EdsC w10 x9 k9 BC) := HE9.out.below hb10; clear hb10 g10)
            | (go_at_call 13; (with_reducible refine (HF2c.out _ _ _ HB10.out HE910.out).mono ?_); rintro e w11 ⟨x11, k11, rfl, g11, hb11⟩; have HB11 : Hid (Below w.heap.size w w11) := HB10.out.trans (hb11.mono HB10.out.size); have HE11 : Hid (EdsA w11 x11 F) := g11.all; have HE1011 : Hid (EdsA w11 x10 F) := HE10.out.below hb11; clear hb11 g11)
            | (go_at_call 10; (with_reducible refine (same_any _ _ _ _ F _ HE1011.out HE11.out HFl.out).mono ?_); rintro e w12 ⟨rfl, hb12⟩; have HB12 : Hid (Below w.heap.size w w12) := HB11.out.trans (hb12.mono HB11.out.size); clear hb12))
          go_ret
          exact ⟨rfl, HB12.out⟩
        · have hne : (EBC != 0) = true := by simpa using hE1
          clear hE1 fthree
          go_enter Try.func4, Try.ntmps4
          go_wp2_with (first
            | (go_at_call 11; (with_reducible refine (HAP.out _ (Below.refl _ _)).mono ?_); rintro e w1 ⟨rfl, hb1⟩; have HB1 : Hid (Below w.heap.size w w1) := hb1; clear hb1)
            | (go_at_call 13; (with_reducible refine (HAN.out _ HB1.out).mono ?_); rintro e w2 ⟨x2, k2, rfl, g2, hb2⟩; have HB2 : Hid (Below w.heap.size w w2) := HB1.out.trans (hb2.mono HB1.out.size); have HE2 : Hid (EdsA w2 x2 a) := g2.all; clear hb2 g2)
            | (go_at_call 13; (with_reducible refine (HNA.out _ HB2.out).mono ?_); rintro e w3 ⟨x3, k3, rfl, g3, hb3⟩; have HB3 : Hid (Below w.heap.size w w3) := HB2.out.trans (hb3.mono HB2.out.size); have HE3 : Hid (EdsA w3 x3 a) := g3.all; have HE23 : Hid (EdsA w3 x2 a) := HE2.out.below hb3; clear hb3 g3)
            | (go_at_call 10; (with_reducible refine (same_any _ _ _ _ a _ HE23.out (HA.out.below HB3.out).all HLa.out).mono ?_); rintro e w4 ⟨rfl, hb4⟩; have HB4 : Hid (Below w.heap.size w w4) := HB3.out.trans (hb4.mono HB3.out.size); have HE34 : Hid (EdsA w4 x3 a) := HE3.out.below hb4; clear hb4 HE23)
            | (go_at_call 10; (with_reducible refine (same_any _ _ _ _ a _ HE34.out (HA.out.below HB4.out).all HLa.out).mono ?_); rintro e w5 ⟨rfl, hb5⟩; have HB5 : Hid (Below w.heap.size w w5) := HB4.out.trans (hb5.mono HB4.out.size); clear hb5)
            | (go_at_call 11; (with_reducible refine (HAS.out _ HB5.out).mono ?_); rintro e w6 ⟨rfl, hb6⟩; have HB6 : Hid (Below w.heap.size w w6) := HB5.out.trans (hb6.mono HB5.out.size); clear hb6)
            | (go_at_call 13; (with_reducible refine (HAB.out _ HB6.out).mono ?_); rintro e w7 ⟨x7, k7, rfl, g7, hb7⟩; have HB7 : Hid (Below w.heap.size w w7) := HB6.out.trans (hb7.mono HB6.out.size); have HE7 : Hid (EdsC w7 x7 k7 AB) := g7; clear hb7 g7)
            | (go_at_call 11; (with_reducible refine (HAA.out _ _ _ HE7.out.all).mono ?_); rintro e w8 ⟨rfl, hb8⟩; have HB8 : Hid (Below w.heap.size w w8) := HB7.out.trans (hb8.mono HB7.out.size); have HE8 : Hid (EdsC w8 x7 k7 AB) := HE7.out.below hb8; clear hb8)
            | (go_at_call 13; (with_reducible refine (HBC.out _ HB8.out).mono ?_); rintro e w9 ⟨x9, k9, rfl, g9, hb9⟩; have HB9 : Hid (Below w.heap.size w w9) := HB8.out.trans (hb9.mono HB8.out.size); have HE9 : Hid (EdsC w9 x9 k9 BC) := g9; have HE89 : Hid (EdsC w9 x7 k7 AB) := HE8.out.below hb9; clear hb9 g9))
          go_ret
          exact ⟨rfl, HB9.out⟩
      · obtain ⟨y1, y2⟩ := fmany rfl hE0
        subst y1
        have hy2 : (65536 : Int) < (a.length : Int) + (b.length : Int) := by omega
        clear fab fmany fwrong fthree hE0 y2 hvb
        go_enter Try.func4, Try.ntmps4
        go_wp2_with (first
          | (go_at_call 11; (with_reducible refine (HAP.out _ (Below.refl _ _)).mono ?_); rintro e w1 ⟨rfl, hb1⟩; have HB1 : Hid (Below w.heap.size w w1) := hb1; clear hb1)
          | (go_at_call 13; (with_reducible refine (HAN.out _ HB1.out).mono ?_); rintro e w2 ⟨x2, k2, rfl, g2, hb2⟩; have HB2 : Hid (Below w.heap.size w w2) := HB1.out.trans (hb2.mono HB1.out.size); have HE2 : Hid (EdsA w2 x2 a) := g2.all; clear hb2 g2)
          | (go_at_call 13; (with_reducible refine (HNA.out _ HB2.out).mono ?_); rintro e w3 ⟨x3, k3, rfl, g3, hb3⟩; have HB3 : Hid (Below w.heap.size w w3) := HB2.out.trans (hb3.mono HB2.out.size); have HE3 : Hid (EdsA w3 x3 a) := g3.all; have HE23 : Hid (EdsA w3 x2 a) := HE2.out.below hb3; clear hb3 g3)
          | (go_at_call 10; (with_reducible refine (same_any _ _ _ _ a _ HE23.out (HA.out.below HB3.out).all HLa.out).mono ?_); rintro e w4 ⟨rfl, hb4⟩; have HB4 : Hid (Below w.heap.size w w4) := HB3.out.trans (hb4.mono HB3.out.size); have HE34 : Hid (EdsA w4 x3 a) := HE3.out.below hb4; clear hb4 HE23)
          | (go_at_call 10; (with_reducible refine (same_any _ _ _ _ a _ HE34.out (HA.out.below HB4.out).all HLa.out).mono ?_); rintro e w5 ⟨rfl, hb5⟩; have HB5 : Hid (Below w.heap.size w w5) := HB4.out.trans (hb5.mono HB4.out.size); clear hb5)
          | (go_at_call 11; (with_reducible refine (HAS.out _ HB5.out).mono ?_); rintro e w6 ⟨rfl, hb6⟩; have HB6 : Hid (Below w.heap.size w w6) := HB5.out.trans (hb6.mono HB5.out.size); clear hb6)
          | (go_at_call 13; (with_reducible refine (HAB.out _ HB6.out).mono ?_); rintro e w7 ⟨x7, k7, rfl, g7, hb7⟩; have HB7 : Hid (Below w.heap.size w w7) := HB6.out.trans (hb7.mono HB6.out.size); have HE7 : Hid (EdsC w7 x7 k7 AB) := g7; clear hb7 g7))
        go_ret
        exact ⟨rfl, HB7.out⟩
    · have hw1 := fwrong hb0
      subst hw1
      have hne : (EAB != 0) = true := by simpa using hb0
      have heq : (EAB == EAB) = true := by simp
      clear fab fmany fwrong fthree hb0 hvb
      go_enter Try.func4, Try.ntmps4
      go_wp2_with (first
        | (go_at_call 11; (with_reducible refine (HAP.out _ (Below.refl _ _)).mono ?_); rintro e w1 ⟨rfl, hb1⟩; have HB1 : Hid (Below w.heap.size w w1) := hb1; clear hb1)
        | (go_at_call 13; (with_reducible refine (HAN.out _ HB1.out).mono ?_); rintro e w2 ⟨x2, k2, rfl, g2, hb2⟩; have HB2 : Hid (Below w.heap.size w w2) := HB1.out.trans (hb2.mono HB1.out.size); have HE2 : Hid (EdsA w2 x2 a) := g2.all; clear hb2 g2)
        | (go_at_call 13; (with_reducible refine (HNA.out _ HB2.out).mono ?_); rintro e w3 ⟨x3, k3, rfl, g3, hb3⟩; have HB3 : Hid (Below w.heap.size w w3) := HB2.out.trans (hb3.mono HB2.out.size); have HE3 : Hid (EdsA w3 x3 a) := g3.all; have HE23 : Hid (EdsA w3 x2 a) := HE2.out.below hb3; clear hb3 g3)
        | (go_at_call 10; (with_reducible refine (same_any _ _ _ _ a _ HE23.out (HA.out.below HB3.out).all HLa.out).mono ?_); rintro e w4 ⟨rfl, hb4⟩; have HB4 : Hid (Below w.heap.size w w4) := HB3.out.trans (hb4.mono HB3.out.size); have HE34 : Hid (EdsA w4 x3 a) := HE3.out.below hb4; clear hb4 HE23)
        | (go_at_call 10; (with_reducible refine (same_any _ _ _ _ a _ HE34.out (HA.out.below HB4.out).all HLa.out).mono ?_); rintro e w5 ⟨rfl, hb5⟩; have HB5 : Hid (Below w.heap.size w w5) := HB4.out.trans (hb5.mono HB4.out.size); clear hb5)
        | (go_at_call 11; (with_reducible refine (HAS.out _ HB5.out).mono ?_); rintro e w6 ⟨rfl, hb6⟩; have HB6 : Hid (Below w.heap.size w w6) := HB5.out.trans (hb6.mono HB5.out.size); clear hb6)
        | (go_at_call 13; (with_reducible refine (HAB.out _ HB6.out).mono ?_); rintro e w7 ⟨x7, k7, rfl, g7, hb7⟩; have HB7 : Hid (Below w.heap.size w w7) := HB6.out.trans (hb7.mono HB6.out.size); have HE7 : Hid (EdsC w7 x7 k7 AB) := g7; clear hb7 g7))
      go_ret
      exact ⟨rfl, HB7.out⟩
  · have h62 : val62 tx.size a = vld tx.size a := by unfold val62; rw [if_pos (by omega)]
    have hE : cmpE tx.size a b = vld tx.size a := by unfold cmpE; rw [h62, if_neg hva]
    have hL : cmpL tx.size a b = [] := by unfold cmpL; rw [h62, if_neg (fun h => hva h.1)]
    rw [hE, hL] at HAB
    obtain ⟨va, hva'⟩ : ∃ va, vld tx.size a = va := ⟨_, rfl⟩
    rw [hva'] at HAP HAB hva
    have hne : (va != 0) = true := by simpa using hva
    have heq : (va == va) = true := by simp
    clear h62 hE hL hva hva'
    go_enter Try.func4, Try.ntmps4
    go_wp2_with (first
      | (go_at_call 11; (with_reducible refine (HAP.out _ (Below.refl _ _)).mono ?_); rintro e w1 ⟨rfl, hb1⟩; have HB1 : Hid (Below w.heap.size w w1) := hb1; clear hb1)
      | (go_at_call 13; (with_reducible refine (HAB.out _ HB1.out).mono ?_); rintro e w2 ⟨x2, k2, rfl, g2, hb2⟩; have HB2 : Hid (Below w.heap.size w w2) := HB1.out.trans (hb2.mono HB1.out.size); clear hb2 g2))
    go_ret
    exact ⟨rfl, HB2.out⟩
end Go.Proofs.Ytniamjbieciilaa
