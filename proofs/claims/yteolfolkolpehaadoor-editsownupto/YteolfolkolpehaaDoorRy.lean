import Derived.Test.YteolfolkolpehaaDoorRk
import Derived.Test.YteolfolkolpehaaDoorRp
import Derived.Test.YteolfolkolpehaaDoorPr
import Derived.Lib.ItoaMem
namespace Go.Proofs.YteolfolkolpehaaDoor
set_option linter.unusedVariables false

/- numbers as they are printed -/
theorem ofNat_digit {k : Nat} (h : k < 10) : (UInt8.ofNat (48 + k)).toNat = 48 + k := by
  rw [UInt8.toNat_ofNat_of_lt' (by show 48 + k < 256; omega)]
theorem dd_snoc {u : Nat} (h : ¬ u < 10) : Lib.decDigits u = Lib.decDigits (u / 10) ++ [UInt8.ofNat (48 + u % 10)] := by rw [Lib.decDigits, dif_neg h]
theorem isD_ofNat {k : Nat} (h : k < 10) : isD (UInt8.ofNat (48 + k)) = true := (isD_iff _).2 (by rw [ofNat_digit h]; omega)
theorem head_app {a b : List UInt8} (h : a ≠ []) : (a ++ b).head? = a.head? := by
  cases a with
  | nil => exact absurd rfl h
  | cons c r => rfl
theorem dd_facts (u : Nat) : (Lib.decDigits u).all isD = true ∧ Lib.decDigits u ≠ [] ∧ dv 0 (Lib.decDigits u) = u ∧ (u ≠ 0 → (Lib.decDigits u).head? ≠ some 48) := by
  induction u using Nat.strongRecOn with
  | _ u ih =>
    by_cases h : u < 10
    · rw [Lib.decDigits_one h]
      refine ⟨by rw [List.all_cons, List.all_nil, isD_ofNat h]; rfl, by simp, by rw [dv_cons, dv_nil, ofNat_digit h]; omega, fun h0 h1 => ?_⟩
      have h2 : UInt8.ofNat (48 + u) = 48 := Option.some.inj h1
      have h3 := ofNat_digit h
      rw [h2] at h3
      have : (48 : UInt8).toNat = 48 := rfl
      omega
    · obtain ⟨a, b, c, d⟩ := ih (u / 10) (by omega)
      rw [dd_snoc h]
      refine ⟨by rw [List.all_append, a, List.all_cons, List.all_nil, isD_ofNat (show u % 10 < 10 by omega)]; rfl, by simp, ?_, fun _ => ?_⟩
      · rw [dv_snoc, c, ofNat_digit (by omega)]; omega
      · rw [head_app b]
        exact d (by omega)
theorem dv_pos {d : List UInt8} (ha : d.all isD = true) (hne : d ≠ []) (h0 : d.head? ≠ some 48) : 1 ≤ dv 0 d := by
  cases d with
  | nil => exact absurd rfl hne
  | cons c r =>
    simp only [List.all_cons, Bool.and_eq_true] at ha
    have h1 := (isD_iff c).1 ha.1
    have h2 : c.toNat ≠ 48 := fun e => h0 (by rw [List.head?_cons, show c = 48 from UInt8.toNat_inj.1 e])
    rw [dv_cons]
    have := dv_le r (0 * 10 + (c.toNat - 48))
    omega
theorem dd_unique (d : List UInt8) : d.all isD = true → d ≠ [] → d.head? ≠ some 48 → d = Lib.decDigits (dv 0 d) := by
  suffices h : ∀ (n : Nat) (d : List UInt8), d.length = n → d.all isD = true → d ≠ [] → d.head? ≠ some 48 → d = Lib.decDigits (dv 0 d) from h d.length d rfl
  intro n
  induction n with
  | zero => intro d hl _ hne _; exact absurd (List.eq_nil_of_length_eq_zero hl) hne
  | succ n ih =>
    intro d hl ha hne h0
    obtain ⟨d', x, rfl⟩ : ∃ d' x, d = d' ++ [x] := ⟨d.dropLast, d.getLast hne, (List.dropLast_concat_getLast hne).symm⟩
    rw [List.all_append, Bool.and_eq_true] at ha
    have hx := (isD_iff x).1 (by simpa using ha.2)
    rw [dv_snoc]
    have hxx : UInt8.ofNat (48 + (x.toNat - 48)) = x := by
      apply UInt8.toNat_inj.1
      rw [ofNat_digit (by omega)]
      omega
    by_cases hd : d' = []
    · subst hd
      rw [dv_nil, Nat.zero_mul, Nat.zero_add, Lib.decDigits_one (by omega), hxx]
      rfl
    · have h0' : d'.head? ≠ some 48 := by rw [head_app hd] at h0; exact h0
      have hp := dv_pos ha.1 hd h0'
      have hi := ih d' (by simpa using hl) ha.1 hd h0'
      rw [dd_snoc (by omega), show (dv 0 d' * 10 + (x.toNat - 48)) / 10 = dv 0 d' by omega, show (dv 0 d' * 10 + (x.toNat - 48)) % 10 = x.toNat - 48 by omega, hxx, ← hi]
/-- a whole number is printed so -/
theorem nwh_itoa {l : List UInt8} (h : nwh l = true) : l = Lib.itoa (vl l) := by
  cases l with
  | nil => cases h
  | cons c r =>
    by_cases hc : c = 45
    · subst hc
      rw [nwh, if_pos rfl] at h
      simp only [Bool.and_eq_true, bne_iff_ne] at h
      obtain ⟨⟨h1, h2⟩, h3⟩ := h
      have hd := nw1_all h3
      have h0 : r.head? ≠ some 48 := fun e => h2 (nw1_zero h3 e)
      rw [vl, if_pos rfl, Lib.itoa_neg _ (dv_pos hd h1 h0), ← dd_unique r hd h1 h0]
    · rw [nwh, if_neg hc] at h
      have hd := nw1_all h
      rw [vl, if_neg hc, Lib.itoa_nonneg]
      by_cases h0 : (c :: r).head? = some 48
      · have e := nw1_zero h h0
        rw [e]
        rw [dv_cons, dv_nil]
        show [48] = Lib.decDigits 0
        rw [Lib.decDigits_one (by omega)]
        rfl
      · exact dd_unique _ hd (by simp) h0
theorem itoa_nwh {n : Int} (h0 : -9223372036854775808 ≤ n) (h1 : n ≤ 9223372036854775807) : nwh (Lib.itoa n) = true ∧ vl (Lib.itoa n) = n := by
  by_cases hn : n < 0
  · obtain ⟨u, hu⟩ : ∃ u : Nat, n = -(u : Int) := ⟨n.natAbs, by omega⟩
    subst hu
    obtain ⟨a, b, c, d⟩ := dd_facts u
    rw [Lib.itoa_neg u (by omega), ← List.singleton_append]
    refine ⟨by rw [nwh_minus a b (d (by omega)), c]; exact decide_eq_true (by omega), by rw [vl_minus, c]⟩
  · obtain ⟨u, hu⟩ : ∃ u : Nat, n = (u : Int) := ⟨n.toNat, by omega⟩
    subst hu
    obtain ⟨a, b, c, d⟩ := dd_facts u
    rw [Lib.itoa_nonneg]
    by_cases hz : u = 0
    · subst hz
      rw [Lib.decDigits_one (by omega)]
      exact ⟨by decide, by decide⟩
    · refine ⟨?_, ?_⟩
      · have := nwh_plain a b (d hz)
        rw [List.nil_append, c] at this
        rw [this]
        exact decide_eq_true (by omega)
      · have := vl_plain a
        rw [List.nil_append, c] at this
        exact this
theorem dv_app (a b : List UInt8) : dv 0 (a ++ b) = dv (dv 0 a) b := by unfold dv; rw [List.foldl_append]
theorem nwb_whole {l : List UInt8} (h : nwh l = true) : nwb l = true := by unfold nwb; rw [h, Bool.or_true]
/-- what a whole number begins with -/
theorem nwb_pre {a b : List UInt8} (h : nwh (a ++ b) = true) (hne : a ≠ []) : nwb a = true := by
  cases a with
  | nil => exact absurd rfl hne
  | cons c r =>
    rw [List.cons_append] at h
    by_cases hc : c = 45
    · subst hc
      by_cases hr : r = []
      · subst hr; decide
      · apply nwb_whole
        rw [nwh, if_pos rfl] at h
        simp only [Bool.and_eq_true, bne_iff_ne] at h
        obtain ⟨⟨h1, h2⟩, h3⟩ := h
        have hd := nw1_all h3
        have h0 : (r ++ b).head? ≠ some 48 := fun e => h2 (nw1_zero h3 e)
        have hv := nwh_minus hd h1 h0
        rw [List.singleton_append, nwh, if_pos rfl, bne_iff_ne.2 h1, bne_iff_ne.2 h2, h3] at hv
        have hv := of_decide_eq_true hv.symm
        rw [dv_app] at hv
        have hl := dv_le b (dv 0 r)
        rw [List.all_append, Bool.and_eq_true] at hd
        rw [head_app hr] at h0
        have := nwh_minus hd.1 hr h0
        rw [List.singleton_append] at this
        rw [this]
        exact decide_eq_true (by omega)
    · apply nwb_whole
      rw [nwh, if_neg hc] at h
      have hd := nw1_all h
      by_cases h0 : c = 48
      · subst h0
        have e := nw1_zero h (by rfl)
        have : r = [] := (List.append_eq_nil_iff.1 (List.cons.inj e).2).1
        subst this
        decide
      · have hv := nwh_plain (d := c :: (r ++ b)) hd (by simp) (fun e => h0 (Option.some.inj e))
        rw [List.nil_append, nwh, if_neg hc, h] at hv
        have hv := of_decide_eq_true hv.symm
        rw [show c :: (r ++ b) = (c :: r) ++ b from rfl, dv_app] at hv
        have hl := dv_le b (dv 0 (c :: r))
        rw [show c :: (r ++ b) = (c :: r) ++ b from rfl, List.all_append, Bool.and_eq_true] at hd
        have := nwh_plain hd.1 (by simp) (fun e => h0 (Option.some.inj e))
        rw [List.nil_append] at this
        rw [this]
        exact decide_eq_true (by omega)
theorem nwh_bytes {l : List UInt8} (h : nwh l = true) : ∀ x ∈ l, isD x = true ∨ x = 45 := by
  cases l with
  | nil => intro x hx; cases hx
  | cons c r =>
    by_cases hc : c = 45
    · subst hc
      rw [nwh, if_pos rfl] at h
      simp only [Bool.and_eq_true] at h
      have hd := nw1_all h.2
      intro x hx
      rcases List.mem_cons.1 hx with rfl | hx
      · exact .inr rfl
      · exact .inl (List.all_eq_true.1 hd x hx)
    · rw [nwh, if_neg hc] at h
      have hd := nw1_all h
      intro x hx
      exact .inl (List.all_eq_true.1 hd x hx)

/- the reference's take -/
theorem tk_print (e : UInt8) (he : isD e = false) (he2 : e ≠ 45) : ∀ (suf pre r : List UInt8), nwh (pre ++ suf) = true → tkR e pre (suf ++ e :: r) = (vl (pre ++ suf), suf.length + 1, true)
  | [], pre, r, h => by
    rw [List.append_nil] at h ⊢
    rw [List.nil_append, tkR, if_pos ⟨rfl, h⟩]
    rfl
  | x :: suf, pre, r, h => by
    have hx := nwh_bytes h x (by simp)
    have hxe : ¬ (x = e ∧ nwh pre = true) := fun h' => by
      rcases hx with hx | hx
      · rw [h'.1, he] at hx; cases hx
      · exact he2 (h'.1.symm.trans hx)
    have h2 : nwh ((pre ++ [x]) ++ suf) = true := by rw [List.append_assoc]; exact h
    rw [List.cons_append, tkR, if_neg hxe, if_pos (nwb_pre h2 (by simp)), tk_print e he he2 suf (pre ++ [x]) r h2]
    rw [List.append_assoc]
    rfl
theorem tk_cut (e : UInt8) (he : isD e = false) (he2 : e ≠ 45) : ∀ (suf pre more : List UInt8), nwh (pre ++ (suf ++ more)) = true → tkR e pre suf = (0, suf.length, false)
  | [], pre, more, h => by rw [tkR]; rfl
  | x :: suf, pre, more, h => by
    have hx := nwh_bytes h x (by simp)
    have hxe : ¬ (x = e ∧ nwh pre = true) := fun h' => by
      rcases hx with hx | hx
      · rw [h'.1, he] at hx; cases hx
      · exact he2 (h'.1.symm.trans hx)
    have h2 : nwh ((pre ++ [x]) ++ (suf ++ more)) = true := by rw [List.append_assoc]; exact h
    rw [tkR, if_neg hxe, if_pos (nwb_pre h2 (by simp)), tk_cut e he he2 suf (pre ++ [x]) more h2]
    rfl
theorem tk_back (e : UInt8) : ∀ (l pre : List UInt8) (n : Int) (q : Nat), tkR e pre l = (n, q, true) → ∃ d r, l = d ++ e :: r ∧ nwh (pre ++ d) = true ∧ n = vl (pre ++ d) ∧ q = d.length + 1
  | [], pre, n, q, h => by rw [tkR] at h; cases h
  | x :: l, pre, n, q, h => by
    rw [tkR] at h
    by_cases hx : x = e ∧ nwh pre = true
    · rw [if_pos hx] at h
      simp only [Prod.mk.injEq] at h
      exact ⟨[], l, by rw [hx.1]; rfl, by rw [List.append_nil]; exact hx.2, by rw [List.append_nil]; exact h.1.symm, h.2.1.symm⟩
    · rw [if_neg hx] at h
      by_cases hb : nwb (pre ++ [x]) = true
      · rw [if_pos hb] at h
        simp only [Prod.mk.injEq] at h
        obtain ⟨d, r, h1, h2, h3, h4⟩ := tk_back e l (pre ++ [x]) n (q - 1) (Prod.ext h.1 (Prod.ext (by show _ = q - 1; omega) h.2.2))
        rw [List.append_assoc] at h2 h3
        exact ⟨x :: d, r, by rw [h1]; rfl, h2, h3, by rw [List.length_cons]; omega⟩
      · rw [if_neg hb] at h
        cases h

/- texts between quotation marks -/
theorem qz_esc (c : UInt8) (r : List UInt8) : qz (esc1 c ++ r) = (c :: (qz r).1, (qz r).2.1 + (esc1 c).length, (qz r).2.2) := by
  unfold esc1
  by_cases h1 : c = 34 ∨ c = 92
  · rw [if_pos h1]
    show qz (92 :: c :: r) = _
    rw [qz, if_neg (by decide), if_neg (by decide), if_pos rfl]
    have h2 : c = 34 ∨ c = 92 ∨ c = 110 := h1.elim .inl (fun h => .inr (.inl h))
    simp only [if_pos h2]
    have h3 : c ≠ 110 := by rcases h1 with rfl | rfl <;> decide
    rw [if_neg h3]
    rfl
  · rw [if_neg h1]
    by_cases h2 : c = 10
    · subst h2
      rw [if_pos rfl]
      show qz (92 :: 110 :: r) = _
      rw [qz, if_neg (by decide), if_neg (by decide), if_pos rfl]
      rfl
    · rw [if_neg h2]
      show qz (c :: r) = _
      rw [qz_byte r (fun h => h1 (.inl h)) h2 (fun h => h1 (.inr h))]
      rfl
theorem qz_print : ∀ (t r : List UInt8), qz (esc t ++ 34 :: r) = (t, (esc t).length + 1, true)
  | [], r => by show qz (34 :: r) = _; rw [qz_mark]; rfl
  | c :: t, r => by
    rw [esc_cons, List.append_assoc, qz_esc, qz_print t r, List.length_append]
    show (_, _, _) = (_, _, _)
    rw [show (esc t).length + 1 + (esc1 c).length = (esc1 c).length + (esc t).length + 1 by omega]
theorem esc1_cut {c : UInt8} {t m : List UInt8} (h : t ++ m = esc1 c) (hm : m ≠ []) : (qz t).2 = (t.length, false) := by
  cases t with
  | nil => rw [qz_end]; rfl
  | cons a t =>
    have hl : (a :: t).length + m.length = (esc1 c).length := by rw [← List.length_append, h]
    have h2 := esc1_len c
    have hm1 : 0 < m.length := List.length_pos_iff.2 hm
    simp only [List.length_cons] at hl
    have ht : t = [] := List.eq_nil_of_length_eq_zero (by omega)
    subst ht
    have h92 : a = 92 := by
      unfold esc1 at h
      split at h
      · exact (List.cons.inj h).1
      · split at h
        · exact (List.cons.inj h).1
        · have := congrArg List.length h
          simp at this
          exact absurd this hm
    subst h92
    unfold qz
    rfl
theorem qz_cut : ∀ (x t m : List UInt8), t ++ m = esc x → (qz t).2 = (t.length, false)
  | [], t, m, h => by
    have : t = [] := (List.append_eq_nil_iff.1 h).1
    subst this
    rw [qz_end]; rfl
  | c :: x, t, m, h => by
    rw [esc_cons] at h
    rcases List.append_eq_append_iff.1 h with ⟨a, h1, h2⟩ | ⟨a, h1, h2⟩
    · by_cases ha : a = []
      · subst ha
        rw [List.append_nil] at h1
        subst h1
        have := qz_esc c []
        rw [List.append_nil] at this
        rw [this, qz_end]
        show (0 + (esc1 c).length, false) = _
        rw [Nat.zero_add]
      · exact esc1_cut h1.symm ha
    · rw [h1, qz_esc]
      have := qz_cut x a m h2.symm
      show ((qz a).2.1 + (esc1 c).length, (qz a).2.2) = _
      rw [this, List.length_append, Nat.add_comm]
theorem qz_back : ∀ (n : Nat) (l T : List UInt8) (N : Nat), l.length ≤ n → qz l = (T, N, true) → ∃ r, l = esc T ++ 34 :: r ∧ N = (esc T).length + 1
  | _, [], T, N, _, h => by rw [qz_end] at h; cases h
  | 0, c :: l, T, N, hn, h => by simp at hn
  | n + 1, c :: l, T, N, hn, h => by
    simp only [List.length_cons] at hn
    by_cases h1 : c = 34
    · subst h1
      rw [qz_mark] at h
      simp only [Prod.mk.injEq] at h
      obtain ⟨rfl, rfl, -⟩ := h
      exact ⟨l, rfl, rfl⟩
    by_cases h2 : c = 10
    · subst h2; rw [qz_feed] at h; cases h
    by_cases h3 : c = 92
    · subst h3
      cases l with
      | nil => unfold qz at h; cases h
      | cons x l =>
        rw [qz, if_neg h1, if_neg h2, if_pos rfl] at h
        by_cases hx : x = 34 ∨ x = 92 ∨ x = 110
        · rw [if_pos hx] at h
          simp only [Prod.mk.injEq] at h
          obtain ⟨r, h4, h5⟩ := qz_back n l (qz l).1 (qz l).2.1 (by simp only [List.length_cons] at hn; omega) (Prod.ext rfl (Prod.ext rfl h.2.2))
          have hT := h.1
          have hE : esc1 (if x = 110 then 10 else x) = [92, x] := by
            rcases hx with rfl | rfl | rfl <;> decide
          refine ⟨r, ?_, ?_⟩
          · rw [← hT, esc_cons, hE, List.append_assoc, ← h4]
            rfl
          · rw [← hT, esc_cons, hE, List.length_append, ← h.2.1, h5]
            simp only [List.length_cons, List.length_nil]
            omega
        · rw [if_neg hx] at h
          cases h
    · rw [qz_byte l h1 h2 h3] at h
      simp only [Prod.mk.injEq] at h
      obtain ⟨r, h4, h5⟩ := qz_back n l (qz l).1 (qz l).2.1 (by omega) (Prod.ext rfl (Prod.ext rfl h.2.2))
      have hE : esc1 c = [c] := by unfold esc1; rw [if_neg (fun h => h.elim h1 h3), if_neg h2]
      refine ⟨r, ?_, ?_⟩
      · rw [← h.1, esc_cons, hE, List.append_assoc, ← h4]
        rfl
      · rw [← h.1, esc_cons, hE, List.length_append, ← h.2.1, h5]
        simp only [List.length_cons, List.length_nil]
        omega
end Go.Proofs.YteolfolkolpehaaDoor

namespace Go.Proofs.YteolfolkolpehaaDoor
set_option linter.unusedVariables false

theorem ln_eq (e : Ed) : ln e = Lib.itoa e.f ++ 44 :: (Lib.itoa e.t ++ 32 :: 34 :: (esc e.s.data.toList ++ 34 :: [10])) := by
  unfold ln quo
  simp
theorem tkA_of {s : ByteArray} {p : Nat} {e : UInt8} (he : isD e = false) (he2 : e ≠ 45) {n : Int} {q : Nat} {o : Bool} (h : tkR e [] (s.data.toList.drop p) = (n, q, o)) : tkA s p e = (n, p + q, o) := by
  rw [← tk_A s p e he he2, h]
theorem drop_step {l a b : List UInt8} {q : Nat} (h : l.drop q = a ++ b) : l.drop (q + a.length) = b := by
  rw [← List.drop_drop, h, List.drop_left]
theorem drop_one {l b : List UInt8} {q : Nat} {x : UInt8} (h : l.drop q = x :: b) : l.drop (q + 1) = b := drop_step (a := [x]) h
theorem at_drop {l r : List UInt8} {q : Nat} {x : UInt8} (h : l.drop q = x :: r) : l[q]? = some x := by
  have := congrArg (·[0]?) h
  simp only [List.getElem?_drop, Nat.add_zero, List.getElem?_cons_zero] at this
  exact this
theorem isAt_drop {s : ByteArray} {r : List UInt8} {q : Nat} {x : UInt8} (h : s.data.toList.drop q = x :: r) : isAt s q x = true := by
  rw [isAt_of (at_drop h)]
  exact decide_eq_true rfl
theorem at_none {l : List UInt8} {q : Nat} (h : l.drop q = []) : l[q]? = none := by
  have := congrArg (·[0]?) h
  simp only [List.getElem?_drop, Nat.add_zero, List.getElem?_nil] at this
  exact this
theorem isAt_none {s : ByteArray} {q : Nat} (h : s.data.toList.drop q = []) (c : UInt8) : isAt s q c = false := isAt_end (at_none h) c
theorem fit_f {e : Ed} (h : EdFit e) : nwh ([] ++ Lib.itoa e.f) = true ∧ vl ([] ++ Lib.itoa e.f) = e.f := by rw [List.nil_append]; exact itoa_nwh h.1 h.2.1
theorem fit_t {e : Ed} (h : EdFit e) : nwh ([] ++ Lib.itoa e.t) = true ∧ vl ([] ++ Lib.itoa e.t) = e.t := by rw [List.nil_append]; exact itoa_nwh h.2.2.1 h.2.2.2.1
theorem bytes_back (s : ByteArray) : (⟨s.data.toList.toArray⟩ : ByteArray) = s := by cases s; simp

theorem esc_ge : ∀ t : List UInt8, t.length ≤ (esc t).length
  | [] => Nat.zero_le _
  | c :: t => by
    have := esc_ge t
    have h : 1 ≤ (esc1 c).length := by unfold esc1; split <;> (try split) <;> simp
    rw [esc_cons, List.length_append, List.length_cons]
    omega

/-- what is printed is read -/
theorem line_print {s : ByteArray} {p : Nat} {e : Ed} {r : List UInt8} (h : s.data.toList.drop p = ln e ++ r) (hF : EdFit e) : lineA s p = (e, p + (ln e).length, true) := by
  have hlen : (ln e).length = (Lib.itoa e.f).length + 1 + ((Lib.itoa e.t).length + 1) + 1 + ((esc e.s.data.toList).length + 1) + 1 := by
    rw [ln_eq]
    simp only [List.length_append, List.length_cons, List.length_nil]
    omega
  rw [ln_eq, List.append_assoc, List.cons_append, List.append_assoc, List.cons_append, List.cons_append, List.append_assoc, List.cons_append, List.singleton_append] at h
  have t1 := tk_print 44 (by decide) (by decide) (Lib.itoa e.f) [] (Lib.itoa e.t ++ 32 :: 34 :: (esc e.s.data.toList ++ 34 :: 10 :: r)) (fit_f hF).1
  rw [(fit_f hF).2, ← h] at t1
  have a1 := tkA_of (by decide) (by decide) t1
  have d1 := drop_step (a := Lib.itoa e.f ++ [44]) (b := Lib.itoa e.t ++ 32 :: 34 :: (esc e.s.data.toList ++ 34 :: 10 :: r)) (by rw [h]; simp)
  rw [List.length_append, List.length_singleton] at d1
  have t2 := tk_print 32 (by decide) (by decide) (Lib.itoa e.t) [] (34 :: (esc e.s.data.toList ++ 34 :: 10 :: r)) (fit_t hF).1
  rw [(fit_t hF).2, ← d1] at t2
  have a2 := tkA_of (by decide) (by decide) t2
  have d2 := drop_step (a := Lib.itoa e.t ++ [32]) (b := 34 :: (esc e.s.data.toList ++ 34 :: 10 :: r)) (by rw [d1]; simp)
  rw [List.length_append, List.length_singleton] at d2
  have i2 := isAt_drop d2
  have d3 := drop_one d2
  have z := qz_print e.s.data.toList (10 :: r)
  rw [← d3] at z
  have d4 := drop_step (a := esc e.s.data.toList ++ [34]) (b := 10 :: r) (by rw [d3]; simp)
  rw [List.length_append, List.length_singleton] at d4
  have i4 := isAt_drop d4
  rw [lineA_T]
  unfold lineT
  simp only [a1, a2, i2, z, i4, if_true, Bool.and_self]
  rw [bytes_back, hlen]
  simp only [Prod.mk.injEq, and_true, true_and]
  omega

/-- a line that is cut: the fault is at the end -/
theorem line_cut {s : ByteArray} {p : Nat} {e : Ed} {t more : List UInt8} (h : s.data.toList.drop p = t) (ht : t ++ more = ln e) (hm : more ≠ []) (hF : EdFit e) : (lineA s p).2 = (p + t.length, false) := by
  rw [lineA_T]
  unfold lineT
  rw [ln_eq] at ht
  have first : ∀ a, Lib.itoa e.f = t ++ a → tkA s p 44 = (0, p + t.length, false) := fun a ha => by
    have t1 := tk_cut 44 (by decide) (by decide) t [] a (by rw [← ha]; exact (fit_f hF).1)
    rw [← h] at t1
    have := tkA_of (by decide) (by decide) t1
    rw [h] at this
    exact this
  rcases List.append_eq_append_iff.1 ht with ⟨a, h1, h2⟩ | ⟨c, h1, h2⟩
  · simp only [first a h1, Bool.false_eq_true, if_false]
  · cases c with
    | nil =>
      rw [List.append_nil] at h1
      simp only [first [] (by rw [List.append_nil, h1]), Bool.false_eq_true, if_false]
    | cons x c =>
      have hx := List.cons.inj h2
      obtain ⟨rfl, h3⟩ := hx
      have t1 := tk_print 44 (by decide) (by decide) (Lib.itoa e.f) [] c (fit_f hF).1
      rw [(fit_f hF).2, ← h1, ← h] at t1
      have a1 := tkA_of (by decide) (by decide) t1
      have d1 := drop_step (l := s.data.toList) (q := p) (a := Lib.itoa e.f ++ [44]) (b := c) (by rw [h, h1]; simp)
      rw [List.length_append, List.length_singleton] at d1
      have hl1 : t.length = (Lib.itoa e.f).length + 1 + c.length := by rw [h1, List.length_append, List.length_cons]; omega
      simp only [a1, if_true]
      have second : ∀ a, Lib.itoa e.t = c ++ a → tkA s (p + ((Lib.itoa e.f).length + 1)) 32 = (0, p + ((Lib.itoa e.f).length + 1) + c.length, false) := fun a ha => by
        have t2 := tk_cut 32 (by decide) (by decide) c [] a (by rw [← ha]; exact (fit_t hF).1)
        rw [← d1] at t2
        have := tkA_of (by decide) (by decide) t2
        rw [d1] at this
        exact this
      rcases List.append_eq_append_iff.1 h3.symm with ⟨a, h4, h5⟩ | ⟨c2, h4, h5⟩
      · simp only [second a h4, Bool.false_eq_true, if_false]
        rw [hl1]
        simp only [Prod.mk.injEq, and_true]
        omega
      · cases c2 with
        | nil =>
          rw [List.append_nil] at h4
          simp only [second [] (by rw [List.append_nil, h4]), Bool.false_eq_true, if_false]
          rw [hl1]
          simp only [Prod.mk.injEq, and_true]
          omega
        | cons y c2 =>
          obtain ⟨rfl, h6⟩ := List.cons.inj h5
          have t2 := tk_print 32 (by decide) (by decide) (Lib.itoa e.t) [] c2 (fit_t hF).1
          rw [(fit_t hF).2, ← h4, ← d1] at t2
          have a2 := tkA_of (by decide) (by decide) t2
          have d2 := drop_step (l := s.data.toList) (q := p + ((Lib.itoa e.f).length + 1)) (a := Lib.itoa e.t ++ [32]) (b := c2) (by rw [d1, h4]; simp)
          rw [List.length_append, List.length_singleton] at d2
          have hl2 : c.length = (Lib.itoa e.t).length + 1 + c2.length := by rw [h4, List.length_append, List.length_cons]; omega
          simp only [a2, if_true]
          cases c2 with
          | nil =>
            simp only [isAt_none d2, Bool.false_eq_true, if_false]
            rw [hl1, hl2]
            simp only [Prod.mk.injEq, and_true, List.length_nil]
            omega
          | cons z c3 =>
            obtain ⟨rfl, h7⟩ := List.cons.inj h6
            have i2 := isAt_drop d2
            have d3 := drop_one d2
            rw [List.length_cons] at hl2
            simp only [i2, if_true]
            have third : ∀ a, esc e.s.data.toList = c3 ++ a → (qz (s.data.toList.drop (p + ((Lib.itoa e.f).length + 1) + ((Lib.itoa e.t).length + 1) + 1))).2 = (c3.length, false) := fun a ha => by
              rw [d3]
              exact qz_cut _ c3 a ha.symm
            rcases List.append_eq_append_iff.1 h7.symm with ⟨a, h8, h9⟩ | ⟨c4, h8, h9⟩
            · have h10 := third a h8
              simp only [h10, Bool.false_and, Bool.false_eq_true, if_false]
              rw [hl1, hl2]
              simp only [Prod.mk.injEq, and_true]
              omega
            · cases c4 with
              | nil =>
                rw [List.append_nil] at h8
                have h10 := third [] (by rw [List.append_nil, h8])
                simp only [h10, Bool.false_and, Bool.false_eq_true, if_false]
                rw [hl1, hl2]
                simp only [Prod.mk.injEq, and_true]
                omega
              | cons u c5 =>
                obtain ⟨rfl, h10⟩ := List.cons.inj h9
                have hc5 : c5 = [] := by
                  have h11 := congrArg List.length (show [10] = c5 ++ more from h10)
                  have h12 : 0 < more.length := List.length_pos_iff.2 hm
                  rw [List.length_append, List.length_singleton] at h11
                  exact List.eq_nil_of_length_eq_zero (by omega)
                subst hc5
                have z := qz_print e.s.data.toList []
                rw [← h8, ← d3] at z
                have hl3 : c3.length = (esc e.s.data.toList).length + 1 := by rw [h8, List.length_append, List.length_singleton]
                have d4 := drop_step (l := s.data.toList) (q := p + ((Lib.itoa e.f).length + 1) + ((Lib.itoa e.t).length + 1) + 1) (a := c3) (b := []) (by rw [d3, List.append_nil])
                rw [hl3] at d4
                simp only [z, isAt_none d4, Bool.true_and, Bool.false_eq_true, if_false]
                rw [hl1, hl2, hl3]
                simp only [Prod.mk.injEq, and_true]
                omega

/-- what is read is what is printed -/
theorem line_back {s : ByteArray} {p q : Nat} {e : Ed} (hs : s.size ≤ 16777216) (h : lineA s p = (e, q, true)) : s.data.toList.drop p = ln e ++ s.data.toList.drop q ∧ EdFit e := by
  rw [lineA_T] at h
  unfold lineT at h
  obtain ⟨n1, b1, o1, t1⟩ : ∃ n q o, tkR 44 [] (s.data.toList.drop p) = (n, q, o) := ⟨_, _, _, rfl⟩
  rw [tkA_of (by decide) (by decide) t1] at h
  cases o1 with
  | false => simp at h
  | true =>
    simp only [if_true] at h
    obtain ⟨n2, b2, o2, t2⟩ : ∃ n q o, tkR 32 [] (s.data.toList.drop (p + b1)) = (n, q, o) := ⟨_, _, _, rfl⟩
    rw [tkA_of (by decide) (by decide) t2] at h
    cases o2 with
    | false => simp at h
    | true =>
      simp only [if_true] at h
      cases i2 : isAt s (p + b1 + b2) 34 with
      | false => rw [i2] at h; simp at h
      | true =>
        rw [i2] at h
        simp only [if_true] at h
        obtain ⟨T, N, o3, z⟩ : ∃ n q o, qz (s.data.toList.drop (p + b1 + b2 + 1)) = (n, q, o) := ⟨_, _, _, rfl⟩
        rw [z] at h
        cases o3 with
        | false => simp at h
        | true =>
          simp only [Bool.true_and] at h
          cases i4 : isAt s (p + b1 + b2 + 1 + N) 10 with
          | false => rw [i4] at h; simp at h
          | true =>
            rw [i4] at h
            simp only [if_true, Prod.mk.injEq, and_true] at h
            obtain ⟨rfl, rfl⟩ := h
            obtain ⟨d, r1, e1, e2, e3, e4⟩ := tk_back 44 _ [] n1 b1 t1
            obtain ⟨f, r2, g1, g2, g3, g4⟩ := tk_back 32 _ [] n2 b2 t2
            rw [List.nil_append] at e2 e3 g2 g3
            have d1 := drop_step (l := s.data.toList) (q := p) (a := d ++ [44]) (b := r1) (by rw [e1]; simp)
            rw [List.length_append, List.length_singleton, ← e4] at d1
            rw [d1] at g1
            have d2 := drop_step (l := s.data.toList) (q := p + b1) (a := f ++ [32]) (b := r2) (by rw [d1, g1]; simp)
            rw [List.length_append, List.length_singleton, ← g4] at d2
            have i3 : s.data.toList[p + b1 + b2]? = some 34 := eq_of_beq i2
            have d2' := drop_at i3
            rw [d2] at d2'
            obtain ⟨r3, k1, k2⟩ := qz_back _ _ T N (Nat.le_refl _) z
            have d3 := drop_step (l := s.data.toList) (q := p + b1 + b2 + 1) (a := esc T ++ [34]) (b := r3) (by rw [k1]; simp)
            rw [List.length_append, List.length_singleton, ← k2] at d3
            have i5 : s.data.toList[p + b1 + b2 + 1 + N]? = some 10 := eq_of_beq i4
            have d3' := drop_at i5
            rw [d3] at d3'
            have hT : (⟨T.toArray⟩ : ByteArray).data.toList = T := by simp
            have hln : s.data.toList.drop p = ln ⟨n1, n2, ⟨T.toArray⟩⟩ ++ s.data.toList.drop (p + b1 + b2 + 1 + N + 1) := by
              rw [ln_eq]
              show _ = Lib.itoa n1 ++ 44 :: (Lib.itoa n2 ++ 32 :: 34 :: (esc (⟨T.toArray⟩ : ByteArray).data.toList ++ 34 :: [10])) ++ _
              rw [hT, e3, g3, ← nwh_itoa e2, ← nwh_itoa g2, e1, g1, d2', k1, d3']
              simp
            refine ⟨hln, ?_⟩
            have b1' := vl_bounds e2
            have b2' := vl_bounds g2
            refine ⟨by show _ ≤ n1; rw [e3]; exact b1'.1, by show n1 ≤ _; rw [e3]; exact b1'.2, by show _ ≤ n2; rw [g3]; exact b2'.1, by show n2 ≤ _; rw [g3]; exact b2'.2, ?_⟩
            have hlen := congrArg List.length k1
            rw [List.length_drop, bytes_len, List.length_append] at hlen
            have he : T.length ≤ (esc T).length := esc_ge T
            have : (⟨T.toArray⟩ : ByteArray).size = T.length := by simp [ByteArray.size]
            show (⟨T.toArray⟩ : ByteArray).size ≤ 140737488351232
            omega
end Go.Proofs.YteolfolkolpehaaDoor
