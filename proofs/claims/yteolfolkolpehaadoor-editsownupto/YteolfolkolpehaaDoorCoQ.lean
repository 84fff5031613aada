import Derived.Test.YteolfolkolpehaaDoorCoP
namespace Go.Proofs.YteolfolkolpehaaDoor
open Go.ChangeShapes Go.WideShapes Go.ChangeAt Go.RowKit
set_option linter.unusedVariables false

theorem lay_append (m : Int) (a b : List Ed) : lay m (a ++ b) = lay m a ++ lay (m + grw a) b := by
  induction a generalizing m with
  | nil => simp [lay, grw]
  | cons e r ih => rw [List.cons_append, lay, lay, ih, List.cons_append, grw, ← Int.add_assoc m]
theorem grw_app (a b : List Ed) : grw (a ++ b) = grw a + grw b := by
  induction a with
  | nil => simp [grw]
  | cons e r ih => rw [List.cons_append, grw, grw, ih]; omega

theorem ch_upto {a : List Ed} {p e m hi : Int} (h : Ch p a e) (hu : ∀ u ∈ lay m a, u.t ≤ hi) (hp : p + m ≤ hi) : Ch p a (hi - (m + grw a)) := by
  induction a generalizing p m with
  | nil => show p ≤ _; rw [grw]; omega
  | cons q r ih =>
    obtain ⟨k1, k2, k3⟩ := h
    rw [lay] at hu
    have h1 := hu _ (List.mem_cons_self ..)
    simp only at h1
    have := ih (m := m + ((q.s.size : Int) - (q.t - q.f))) k3 (fun u h => hu u (List.mem_cons_of_mem _ h)) (by omega)
    refine ⟨k1, k2, ?_⟩
    rw [grw, ← Int.add_assoc]
    exact this
theorem ch_left {a b : List Ed} {p e : Int} (h : Ch p (a ++ b) e) : ∃ e', Ch p a e' := by
  induction a generalizing p with
  | nil => exact ⟨p, Int.le_refl _⟩
  | cons q r ih =>
    obtain ⟨k1, k2, k3⟩ := h
    obtain ⟨e', h'⟩ := ih k3
    exact ⟨e', k1, k2, h'⟩
theorem ch_first {a : List Ed} {p q e : Int} (h : Ch p a e) (hq : ∀ x, a[0]? = some x → q ≤ x.f) (he : q ≤ e) : Ch q a e := by
  cases a with
  | nil => exact he
  | cons x r => obtain ⟨k1, k2, k3⟩ := h; exact ⟨hq x rfl, k2, k3⟩

theorem low_first {put b : List Ed} : (∀ u, put[0]? = some u → low put b ≤ u.f) ∧ (∀ u, b[0]? = some u → low put b ≤ u.f) := by
  cases put <;> cases b <;> refine ⟨fun u hu => ?_, fun u hu => ?_⟩ <;> simp at hu <;> subst hu <;> simp only [low] <;> omega
theorem low_from {put b : List Ed} {c : Int} (h1 : ∀ u, put[0]? = some u → c ≤ u.f) (h2 : ∀ u, b[0]? = some u → c ≤ u.f) (hn : 0 < put.length + b.length) : c ≤ low put b := by
  cases put with
  | nil =>
    cases b with
    | nil => simp at hn
    | cons e r => exact h2 e rfl
  | cons p r =>
    cases b with
    | nil => exact h1 p rfl
    | cons e s => have := h1 p rfl; have := h2 e rfl; simp only [low]; omega

theorem IE_start {a : List Ed} {p e : Int} (h : Ch p a e) (hf : ∀ x, a[0]? = some x → p < x.f) (he : p < e) : ∃ R, IE p a e = .O p :: R := by
  cases a with
  | nil =>
    obtain ⟨n, hn⟩ : ∃ n, (e - p).toNat = n + 1 := ⟨(e - p).toNat - 1, by omega⟩
    exact ⟨oseg (p + 1) n, by rw [IE, hn, oseg]⟩
  | cons x r =>
    have := hf x rfl
    obtain ⟨n, hn⟩ : ∃ n, (x.f - p).toNat = n + 1 := ⟨(x.f - p).toNat - 1, by omega⟩
    exact ⟨_, by rw [IE, hn, oseg, List.cons_append]⟩

theorem DT_start {hi p : Int} {R : List Tok} {b : List Ed} (hb : ∀ e, b[0]? = some e → hi < e.f) : ∃ R', DT hi (.O p :: R) hi b = .O p :: R' := by
  cases b with
  | nil => rw [DT, K_all (Int.le_refl _) (Int.le_refl _)]; exact ⟨R, rfl⟩
  | cons e r =>
    have := hb e rfl
    rw [DT, K, if_pos ⟨Int.le_refl _, by simp only [wd]; omega⟩]
    exact ⟨_, rfl⟩

theorem grp_ne {lo p e : Int} {a b : List Ed} (h : 0 < a.length + b.length) : DT lo (IE p a e) lo b ≠ [] := by
  cases b with
  | cons x r =>
    rw [DT]
    intro h0
    have := run_ne x.s.data.toList
    simp at h0
    exact this h0.2.1
  | nil =>
    rw [DT, K_all (Int.le_refl _) (Int.le_refl _)]
    cases a with
    | nil => simp at h
    | cons x r =>
      rw [IE]
      intro h0
      have := run_ne x.s.data.toList
      simp at h0
      exact this h0.2.1

/-- the groups are the edits that make the row behind both lists -/
theorem comp_main (size : Int) : ∀ (n : Nat) (a b : List Ed) (p m L Lb : Int), a.length + b.length = n → 0 ≤ p → p ≤ size → 0 ≤ p + m → chk size L a = 0 → p ≤ L → chk (size + m + grw a) Lb b = 0 → p + m ≤ Lb → 
    LT size p false [] (DT (p + m) (IE p a size) (p + m) b) = gr (a.length + b.length) (lay m a) a b m := by
  intro n
  induction n using Nat.strongRecOn with
  | ind n ih =>
    intro a b p m L Lb hn hp0 hps hpm ha hL hb hLb
    have hll := lay_len m a
    have hCh := ch_chk ha hL hps
    have hwI := wdt_IE hCh
    have hwg := wdt_ge (IE p a size)
    by_cases h0 : a.length + b.length = 0
    · have e1 : a = [] := List.eq_nil_of_length_eq_zero (by omega)
      have e2 : b = [] := List.eq_nil_of_length_eq_zero (by omega)
      subst e1; subst e2
      rw [show lay m [] = [] from rfl, gr_nil, DT, K_all (Int.le_refl _) (Int.le_refl _), IE]
      have := LT_oseg size p (size - p).toNat []
      rw [List.append_nil] at this
      rw [this, LT, if_neg (by simp; omega)]
    · have hM : 0 ≤ size + m + grw a := by omega
      have hput : ∀ e ∈ lay m a, Nm (size + m + grw a) e := fun e he => by
        have h1 := lay_nm ha hL hps hpm e he
        exact ⟨h1.1, by omega, h1.2.2⟩
      have hbN : ∀ e ∈ b, Nm (size + m + grw a) e := fun e he => chk_ok hb e he
      have hnn : 0 < (lay m a).length + b.length := by omega
      obtain ⟨l0, l1, l2, l3, l4, l5, l6⟩ := rch_all (lay m a) b _ hM hput hbN hnn
      obtain ⟨lo, hlo⟩ : ∃ lo, low (lay m a) b = lo := ⟨_, rfl⟩
      have hlf := low_first (put := lay m a) (b := b)
      have hlo2 : p + m ≤ lo := by
        rw [← hlo]
        refine low_from (fun u hu => (lay_from hCh u (List.mem_of_getElem? hu)).1) (fun u hu => ?_) hnn
        have := chk_first hb u (List.mem_of_getElem? hu); omega
      rw [hlo] at l0 l1 l2 l3 l4 l5 l6 hlf
      rcases hr : rch (lay m a) b ((lay m a).length + b.length) 0 0 lo with ⟨i, j, hi⟩
      rw [hr] at l2 l3 l4 l5 l6
      simp only at l2 l3 l4 l5 l6
      obtain ⟨-, -, -, r4, r5, r6, r7, r8⟩ := rch_grp (lay m a) b _ 0 0 lo i j hi hr (by omega)
      have hg := gr_step (a := a) (m := m) hM hput hbN hnn hlo hr rfl
      rw [hll] at hg
      rw [hg]
      -- the parts
      obtain ⟨a1, ha1⟩ : ∃ a1, a.take i = a1 := ⟨_, rfl⟩
      obtain ⟨a2, ha2⟩ : ∃ a2, a.drop i = a2 := ⟨_, rfl⟩
      obtain ⟨b1, hb1⟩ : ∃ b1, b.take j = b1 := ⟨_, rfl⟩
      obtain ⟨b2, hb2⟩ : ∃ b2, b.drop j = b2 := ⟨_, rfl⟩
      have haa : a = a1 ++ a2 := by rw [← ha1, ← ha2, List.take_append_drop]
      have hbb : b = b1 ++ b2 := by rw [← hb1, ← hb2, List.take_append_drop]
      have hi1 : a1.length = i := by rw [← ha1, List.length_take]; omega
      have hj1 : b1.length = j := by rw [← hb1, List.length_take]; omega
      have hla : lay m a = lay m a1 ++ lay (m + grw a1) a2 := by rw [haa, lay_append]
      have hpt : (lay m a).take i = lay m a1 := by rw [hla, List.take_left' (by rw [lay_len, hi1])]
      have hpd : (lay m a).drop i = lay (m + grw a1) a2 := by rw [hla, List.drop_left' (by rw [lay_len, hi1])]
      have hgw : grw a = grw a1 + grw a2 := by rw [haa, grw_app]
      rw [hpt, hpd, ha1, ha2, hb1, hb2]
      obtain ⟨m', hm'⟩ : ∃ m', m + grw a1 = m' := ⟨_, rfl⟩
      obtain ⟨p', hp'⟩ : ∃ p', hi - m' = p' := ⟨_, rfl⟩
      rw [hm'] at hpd ⊢
      rw [hp']
      have hu1 : ∀ u ∈ lay m a1, u.t ≤ hi := fun u hu => by
        rw [← hpt] at hu
        obtain ⟨k, hk⟩ := List.getElem?_of_mem hu
        rw [List.getElem?_take] at hk
        split at hk
        · rename_i hki; exact (r4 k u (Nat.zero_le _) hki hk).2
        · cases hk
      have hv1 : ∀ e ∈ b1, e.f ≤ hi ∧ e.t ≤ hi := fun u hu => by
        rw [← hb1] at hu
        obtain ⟨k, hk⟩ := List.getElem?_of_mem hu
        rw [List.getElem?_take] at hk
        split at hk
        · rename_i hki; exact r5 k u (Nat.zero_le _) hki hk
        · cases hk
      have hC1 : Ch p a1 p' := by
        rw [haa] at hCh
        obtain ⟨e', he'⟩ := ch_left hCh
        rw [← hp', ← hm']
        exact ch_upto he' hu1 (by omega)
      have hpp := ch_le hC1
      have hf2 : ∀ x, a2[0]? = some x → p' < x.f := fun x hx => by
        have h1 : (lay m' a2)[0]? = some ⟨x.f + m', x.f + m' + x.s.size, x.s⟩ := by
          cases a2 with
          | nil => simp at hx
          | cons y r => simp at hx; subst hx; rfl
        rw [← hpd, List.getElem?_drop, Nat.add_zero] at h1
        have := r7 _ h1
        simp only at this
        omega
      have hg2 : ∀ x, b2[0]? = some x → hi < x.f := fun x hx => by
        rw [← hb2, List.getElem?_drop, Nat.add_zero] at hx
        exact r8 x hx
      have hps' : p' ≤ size := by
        cases ha2' : a2 with
        | nil => rw [ha2', show grw ([] : List Ed) = 0 from rfl] at hgw; omega
        | cons x r =>
          have h1 := hf2 x (by rw [ha2']; rfl)
          have h2 := chk_ok ha x (by rw [haa, ha2']; simp)
          omega
      obtain ⟨L2, _, hck2⟩ := chk_dropped ha i
      rw [ha2] at hck2
      have hck2' : chk size (p' + 1) a2 = 0 := chk_up hck2 (fun x hx => by have := hf2 x hx; omega)
      have hC2 : Ch p' a2 size := ch_chk hck2' (by omega) hps'
      obtain ⟨Lb2, _, hbk2⟩ := chk_dropped hb j
      rw [hb2] at hbk2
      have hbk2' : chk (size + m + grw a) (hi + 1) b2 = 0 := chk_up hbk2 (fun x hx => by have := hg2 x hx; omega)
      have hb2f : ∀ e ∈ b2, hi < e.f ∧ e.f ≤ e.t := fun e he => ⟨by have := chk_first hbk2' e he; omega, (chk_ok hbk2' e he).2.1⟩
      have hbk1 : chk (size + m + grw a) lo b1 = 0 := by
        have h1 := chk_pre hb j
        rw [hb1] at h1
        refine chk_up h1 (fun x hx => hlf.2 x ?_)
        rw [← hb1, List.getElem?_take] at hx
        split at hx
        · exact hx
        · cases hx
      have hw1 : p + m + wdt (IE p a1 p') = hi := by rw [wdt_IE hC1]; omega
      have hT2 : (IE p' a2 size = [] ∧ p' = size ∧ b2 = []) ∨ ∃ R, IE p' a2 size = .O p' :: R := by
        by_cases hlt : p' < size
        · exact .inr (IE_start hC2 hf2 hlt)
        · have e1 : a2 = [] := by
            cases ha2' : a2 with
            | nil => rfl
            | cons x r =>
              have h1 := hf2 x (by rw [ha2']; rfl)
              have h2 := chk_ok ha x (by rw [haa, ha2']; simp)
              omega
          have e2 : b2 = [] := by
            cases hb2' : b2 with
            | nil => rfl
            | cons x r =>
              have h1 := hg2 x (by rw [hb2']; rfl)
              have h2 := chk_ok hb x (by rw [hbb, hb2']; simp)
              rw [e1, show grw ([] : List Ed) = 0 from rfl] at hgw
              omega
          refine .inl ⟨?_, by omega, e2⟩
          rw [e1, IE, show (size - p').toNat = 0 by omega]; rfl
      have hS : DT (p + m) (IE p a size) (p + m) b = DT (p + m) (IE p a1 p') (p + m) b1 ++ DT hi (IE p' a2 size) hi b2 := by
        conv => lhs; rw [haa, hbb, IE_split hC1 hC2]
        refine DT_split hw1 ?_ hv1 hb2f (by omega)
        rcases hT2 with ⟨h, _⟩ | ⟨R, h⟩
        · exact .inl h
        · exact .inr ⟨_, R, h⟩
      have hC3 : Ch (lo - m) a1 p' := ch_first hC1 (fun x hx => by
        have h1 : (lay m a)[0]? = some ⟨x.f + m, x.f + m + x.s.size, x.s⟩ := by
          rw [hla]
          cases a1 with
          | nil => simp at hx
          | cons y r => simp at hx; subst hx; rfl
        have := hlf.1 _ h1
        simp only at this
        omega) (by
        have := grw_le a1 (fun e he => by have := chk_ok ha e (by rw [haa]; simp [he]); omega)
        cases ha1' : a1 with
        | nil => rw [ha1'] at hm'; simp only [grw] at hm'; omega
        | cons x r =>
          have h1 : (lay m a)[0]? = some ⟨x.f + m, x.f + m + x.s.size, x.s⟩ := by rw [hla, ha1']; rfl
          have h2 := hlf.1 _ h1
          simp only at h2
          have h3 : x.t ≤ p' := by rw [ha1'] at hC1; exact ch_le hC1.2.2
          have h4 := chk_ok ha x (by rw [haa, ha1']; simp)
          omega)
      have hI : IE p a1 p' = oseg p (lo - m - p).toNat ++ IE (lo - m) a1 p' := IE_split (a1 := []) (show p ≤ lo - m by omega) hC3
      have hG1 : DT (p + m) (IE p a1 p') (p + m) b1 = oseg p (lo - m - p).toNat ++ DT lo (IE (lo - m) a1 p') lo b1 := by
        rw [hI]
        exact DT_ahead (by omega) (fun e he => ⟨chk_first hbk1 e he, (chk_ok hbk1 e he).2.1⟩)
      have hcov : ∀ z, lo ≤ z → z < hi → (∃ u ∈ lay m a1, u.f ≤ z ∧ z < u.t) ∨ (∃ v ∈ b1, v.f ≤ z ∧ z < v.t) := fun z z1 z2 => by
        rcases r6 z z1 z2 with ⟨k, u, hk, hu, q1, q2⟩ | ⟨k, u, hk, hu, q1, q2⟩
        · refine .inl ⟨u, ?_, q1, q2⟩
          rw [← hpt]
          exact List.mem_of_getElem? (i := k) (by rw [List.getElem?_take, if_pos hk]; exact hu)
        · refine .inr ⟨u, ?_, q1, q2⟩
          rw [← hb1]
          exact List.mem_of_getElem? (i := k) (by rw [List.getElem?_take, if_pos hk]; exact hu)
      have hgrp := grp (m := m) (x := lo) (hi := hi) hC3 (by omega) hbk1 (Int.le_refl _) hcov
      rw [Int.sub_add_cancel] at hgrp
      obtain ⟨g1, g2⟩ := hgrp
      have hne := grp_ne (lo := lo) (p := lo - m) (e := p') (a := a1) (b := b1) (by omega)
      rw [hS, hG1, List.append_assoc, LT_oseg, LT_free g1, g2, List.nil_append]
      have hem : (DT lo (IE (lo - m) a1 p') lo b1).isEmpty = false := by
        cases hd : DT lo (IE (lo - m) a1 p') lo b1 with
        | nil => exact absurd hd hne
        | cons _ _ => rfl
      rw [hem, show (false || !false) = true from rfl]
      have hR : (DT hi (IE p' a2 size) hi b2 = [] ∧ p' = size) ∨ ∃ R', DT hi (IE p' a2 size) hi b2 = .O p' :: R' := by
        rcases hT2 with ⟨h1, h2, h3⟩ | ⟨R, h⟩
        · rw [h1, h3]; exact .inl ⟨rfl, h2⟩
        · rw [h]; exact .inr (DT_start hg2)
      rw [LT_open hR, wv_wo (lay_srt hC1) hbk1]
      have e1 : p + ((lo - m - p).toNat : Int) = lo - m := by omega
      rw [e1]
      congr 1
      have hih := ih (a2.length + b2.length) (by
        have h1 : a.length = a1.length + a2.length := by rw [haa, List.length_append]
        have h2 : b.length = b1.length + b2.length := by rw [hbb, List.length_append]
        omega) a2 b2 p' m' (p' + 1) (hi + 1) rfl (by omega) hps' (by omega) hck2' (by omega) (by rw [show size + m' + grw a2 = size + m + grw a by omega]; exact hbk2') (by omega)
      rw [show p' + m' = hi by omega] at hih
      rw [hih, lay_len]
end Go.Proofs.YteolfolkolpehaaDoor
