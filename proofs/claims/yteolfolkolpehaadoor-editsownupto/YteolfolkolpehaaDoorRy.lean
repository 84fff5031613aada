import Derived.Test.YteolfolkolpehaaDoorRx
namespace Go.Proofs.YteolfolkolpehaaDoor
set_option linter.unusedVariables false

theorem ln_eq (e : Ed) : ln e = Lib.itoa e.f ++ 44 :: (Lib.itoa e.t ++ 32 :: 34 :: (esc e.s.data.toList ++ 34 :: [10])) := by
  unfold ln quo
  simp
theorem tkA_of {s : ByteArray} {p : Nat} {e : UInt8} (he : isD e = false) (he2 : e ≠ 45) {n : Int} {q : Nat} {o : Bool} (h : tkR e [] (s.data.toList.drop p) = (n, q, o)) : tkA s p e = (n, p + q, o) := by
  rw [← tk_A s p e he he2, h]
theorem drop_step {l a b : List UInt8} {q : Nat} (h : l.drop q = a ++ b) : l.drop (q + a.length) = b := by
  rw [← List.drop_drop, h, List.drop_left]
theorem drop_one {l b : List UInt8} {q : Nat} {x : UInt8} (h : l.drop q = x :: b) : l.drop (q + 1) = b := drop_step (a := [x]) h
theorem at_drop {l r : List UInt8} {q : Nat} {x : UInt8} (h : l.drop q = x :: r) : l[q]? = some x := by
  have := congrArg (·[0]?) h
  simp only [List.getElem?_drop, Nat.add_zero, List.getElem?_cons_zero] at this
  exact this
theorem isAt_drop {s : ByteArray} {r : List UInt8} {q : Nat} {x : UInt8} (h : s.data.toList.drop q = x :: r) : isAt s q x = true := by
  rw [isAt_of (at_drop h)]
  exact decide_eq_true rfl
theorem at_none {l : List UInt8} {q : Nat} (h : l.drop q = []) : l[q]? = none := by
  have := congrArg (·[0]?) h
  simp only [List.getElem?_drop, Nat.add_zero, List.getElem?_nil] at this
  exact this
theorem isAt_none {s : ByteArray} {q : Nat} (h : s.data.toList.drop q = []) (c : UInt8) : isAt s q c = false := isAt_end (at_none h) c
theorem fit_f {e : Ed} (h : EdFit e) : nwh ([] ++ Lib.itoa e.f) = true ∧ vl ([] ++ Lib.itoa e.f) = e.f := by rw [List.nil_append]; exact itoa_nwh h.1 h.2.1
theorem fit_t {e : Ed} (h : EdFit e) : nwh ([] ++ Lib.itoa e.t) = true ∧ vl ([] ++ Lib.itoa e.t) = e.t := by rw [List.nil_append]; exact itoa_nwh h.2.2.1 h.2.2.2.1
theorem bytes_back (s : ByteArray) : (⟨s.data.toList.toArray⟩ : ByteArray) = s := by cases s; simp

theorem esc_ge : ∀ t : List UInt8, t.length ≤ (esc t).length
  | [] => Nat.zero_le _
  | c :: t => by
    have := esc_ge t
    have h : 1 ≤ (esc1 c).length := by unfold esc1; split <;> (try split) <;> simp
    rw [esc_cons, List.length_append, List.length_cons]
    omega

/-- what is printed is read -/
theorem line_print {s : ByteArray} {p : Nat} {e : Ed} {r : List UInt8} (h : s.data.toList.drop p = ln e ++ r) (hF : EdFit e) : lineA s p = (e, p + (ln e).length, true) := by
  have hlen : (ln e).length = (Lib.itoa e.f).length + 1 + ((Lib.itoa e.t).length + 1) + 1 + ((esc e.s.data.toList).length + 1) + 1 := by
    rw [ln_eq]
    simp only [List.length_append, List.length_cons, List.length_nil]
    omega
  rw [ln_eq, List.append_assoc, List.cons_append, List.append_assoc, List.cons_append, List.cons_append, List.append_assoc, List.cons_append, List.singleton_append] at h
  have t1 := tk_print 44 (by decide) (by decide) (Lib.itoa e.f) [] (Lib.itoa e.t ++ 32 :: 34 :: (esc e.s.data.toList ++ 34 :: 10 :: r)) (fit_f hF).1
  rw [(fit_f hF).2, ← h] at t1
  have a1 := tkA_of (by decide) (by decide) t1
  have d1 := drop_step (a := Lib.itoa e.f ++ [44]) (b := Lib.itoa e.t ++ 32 :: 34 :: (esc e.s.data.toList ++ 34 :: 10 :: r)) (by rw [h]; simp)
  rw [List.length_append, List.length_singleton] at d1
  have t2 := tk_print 32 (by decide) (by decide) (Lib.itoa e.t) [] (34 :: (esc e.s.data.toList ++ 34 :: 10 :: r)) (fit_t hF).1
  rw [(fit_t hF).2, ← d1] at t2
  have a2 := tkA_of (by decide) (by decide) t2
  have d2 := drop_step (a := Lib.itoa e.t ++ [32]) (b := 34 :: (esc e.s.data.toList ++ 34 :: 10 :: r)) (by rw [d1]; simp)
  rw [List.length_append, List.length_singleton] at d2
  have i2 := isAt_drop d2
  have d3 := drop_one d2
  have z := qz_print e.s.data.toList (10 :: r)
  rw [← d3] at z
  have d4 := drop_step (a := esc e.s.data.toList ++ [34]) (b := 10 :: r) (by rw [d3]; simp)
  rw [List.length_append, List.length_singleton] at d4
  have i4 := isAt_drop d4
  rw [lineA_T]
  unfold lineT
  simp only [a1, a2, i2, z, i4, if_true, Bool.and_self]
  rw [bytes_back, hlen]
  simp only [Prod.mk.injEq, and_true, true_and]
  omega

/-- a line that is cut: the fault is at the end -/
theorem line_cut {s : ByteArray} {p : Nat} {e : Ed} {t more : List UInt8} (h : s.data.toList.drop p = t) (ht : t ++ more = ln e) (hm : more ≠ []) (hF : EdFit e) : (lineA s p).2 = (p + t.length, false) := by
  rw [lineA_T]
  unfold lineT
  rw [ln_eq] at ht
  have first : ∀ a, Lib.itoa e.f = t ++ a → tkA s p 44 = (0, p + t.length, false) := fun a ha => by
    have t1 := tk_cut 44 (by decide) (by decide) t [] a (by rw [← ha]; exact (fit_f hF).1)
    rw [← h] at t1
    have := tkA_of (by decide) (by decide) t1
    rw [h] at this
    exact this
  rcases List.append_eq_append_iff.1 ht with ⟨a, h1, h2⟩ | ⟨c, h1, h2⟩
  · simp only [first a h1, Bool.false_eq_true, if_false]
  · cases c with
    | nil =>
      rw [List.append_nil] at h1
      simp only [first [] (by rw [List.append_nil, h1]), Bool.false_eq_true, if_false]
    | cons x c =>
      have hx := List.cons.inj h2
      obtain ⟨rfl, h3⟩ := hx
      have t1 := tk_print 44 (by decide) (by decide) (Lib.itoa e.f) [] c (fit_f hF).1
      rw [(fit_f hF).2, ← h1, ← h] at t1
      have a1 := tkA_of (by decide) (by decide) t1
      have d1 := drop_step (l := s.data.toList) (q := p) (a := Lib.itoa e.f ++ [44]) (b := c) (by rw [h, h1]; simp)
      rw [List.length_append, List.length_singleton] at d1
      have hl1 : t.length = (Lib.itoa e.f).length + 1 + c.length := by rw [h1, List.length_append, List.length_cons]; omega
      simp only [a1, if_true]
      have second : ∀ a, Lib.itoa e.t = c ++ a → tkA s (p + ((Lib.itoa e.f).length + 1)) 32 = (0, p + ((Lib.itoa e.f).length + 1) + c.length, false) := fun a ha => by
        have t2 := tk_cut 32 (by decide) (by decide) c [] a (by rw [← ha]; exact (fit_t hF).1)
        rw [← d1] at t2
        have := tkA_of (by decide) (by decide) t2
        rw [d1] at this
        exact this
      rcases List.append_eq_append_iff.1 h3.symm with ⟨a, h4, h5⟩ | ⟨c2, h4, h5⟩
      · simp only [second a h4, Bool.false_eq_true, if_false]
        rw [hl1]
        simp only [Prod.mk.injEq, and_true]
        omega
      · cases c2 with
        | nil =>
          rw [List.append_nil] at h4
          simp only [second [] (by rw [List.append_nil, h4]), Bool.false_eq_true, if_false]
          rw [hl1]
          simp only [Prod.mk.injEq, and_true]
          omega
        | cons y c2 =>
          obtain ⟨rfl, h6⟩ := List.cons.inj h5
          have t2 := tk_print 32 (by decide) (by decide) (Lib.itoa e.t) [] c2 (fit_t hF).1
          rw [(fit_t hF).2, ← h4, ← d1] at t2
          have a2 := tkA_of (by decide) (by decide) t2
          have d2 := drop_step (l := s.data.toList) (q := p + ((Lib.itoa e.f).length + 1)) (a := Lib.itoa e.t ++ [32]) (b := c2) (by rw [d1, h4]; simp)
          rw [List.length_append, List.length_singleton] at d2
          have hl2 : c.length = (Lib.itoa e.t).length + 1 + c2.length := by rw [h4, List.length_append, List.length_cons]; omega
          simp only [a2, if_true]
          cases c2 with
          | nil =>
            simp only [isAt_none d2, Bool.false_eq_true, if_false]
            rw [hl1, hl2]
            simp only [Prod.mk.injEq, and_true, List.length_nil]
            omega
          | cons z c3 =>
            obtain ⟨rfl, h7⟩ := List.cons.inj h6
            have i2 := isAt_drop d2
            have d3 := drop_one d2
            rw [List.length_cons] at hl2
            simp only [i2, if_true]
            have third : ∀ a, esc e.s.data.toList = c3 ++ a → (qz (s.data.toList.drop (p + ((Lib.itoa e.f).length + 1) + ((Lib.itoa e.t).length + 1) + 1))).2 = (c3.length, false) := fun a ha => by
              rw [d3]
              exact qz_cut _ c3 a ha.symm
            rcases List.append_eq_append_iff.1 h7.symm with ⟨a, h8, h9⟩ | ⟨c4, h8, h9⟩
            · have h10 := third a h8
              simp only [h10, Bool.false_and, Bool.false_eq_true, if_false]
              rw [hl1, hl2]
              simp only [Prod.mk.injEq, and_true]
              omega
            · cases c4 with
              | nil =>
                rw [List.append_nil] at h8
                have h10 := third [] (by rw [List.append_nil, h8])
                simp only [h10, Bool.false_and, Bool.false_eq_true, if_false]
                rw [hl1, hl2]
                simp only [Prod.mk.injEq, and_true]
                omega
              | cons u c5 =>
                obtain ⟨rfl, h10⟩ := List.cons.inj h9
                have hc5 : c5 = [] := by
                  have h11 := congrArg List.length (show [10] = c5 ++ more from h10)
                  have h12 : 0 < more.length := List.length_pos_iff.2 hm
                  rw [List.length_append, List.length_singleton] at h11
                  exact List.eq_nil_of_length_eq_zero (by omega)
                subst hc5
                have z := qz_print e.s.data.toList []
                rw [← h8, ← d3] at z
                have hl3 : c3.length = (esc e.s.data.toList).length + 1 := by rw [h8, List.length_append, List.length_singleton]
                have d4 := drop_step (l := s.data.toList) (q := p + ((Lib.itoa e.f).length + 1) + ((Lib.itoa e.t).length + 1) + 1) (a := c3) (b := []) (by rw [d3, List.append_nil])
                rw [hl3] at d4
                simp only [z, isAt_none d4, Bool.true_and, Bool.false_eq_true, if_false]
                rw [hl1, hl2, hl3]
                simp only [Prod.mk.injEq, and_true]
                omega

/-- what is read is what is printed -/
theorem line_back {s : ByteArray} {p q : Nat} {e : Ed} (hs : s.size ≤ 16777216) (h : lineA s p = (e, q, true)) : s.data.toList.drop p = ln e ++ s.data.toList.drop q ∧ EdFit e := by
  rw [lineA_T] at h
  unfold lineT at h
  obtain ⟨n1, b1, o1, t1⟩ : ∃ n q o, tkR 44 [] (s.data.toList.drop p) = (n, q, o) := ⟨_, _, _, rfl⟩
  rw [tkA_of (by decide) (by decide) t1] at h
  cases o1 with
  | false => simp at h
  | true =>
    simp only [if_true] at h
    obtain ⟨n2, b2, o2, t2⟩ : ∃ n q o, tkR 32 [] (s.data.toList.drop (p + b1)) = (n, q, o) := ⟨_, _, _, rfl⟩
    rw [tkA_of (by decide) (by decide) t2] at h
    cases o2 with
    | false => simp at h
    | true =>
      simp only [if_true] at h
      cases i2 : isAt s (p + b1 + b2) 34 with
      | false => rw [i2] at h; simp at h
      | true =>
        rw [i2] at h
        simp only [if_true] at h
        obtain ⟨T, N, o3, z⟩ : ∃ n q o, qz (s.data.toList.drop (p + b1 + b2 + 1)) = (n, q, o) := ⟨_, _, _, rfl⟩
        rw [z] at h
        cases o3 with
        | false => simp at h
        | true =>
          simp only [Bool.true_and] at h
          cases i4 : isAt s (p + b1 + b2 + 1 + N) 10 with
          | false => rw [i4] at h; simp at h
          | true =>
            rw [i4] at h
            simp only [if_true, Prod.mk.injEq, and_true] at h
            obtain ⟨rfl, rfl⟩ := h
            obtain ⟨d, r1, e1, e2, e3, e4⟩ := tk_back 44 _ [] n1 b1 t1
            obtain ⟨f, r2, g1, g2, g3, g4⟩ := tk_back 32 _ [] n2 b2 t2
            rw [List.nil_append] at e2 e3 g2 g3
            have d1 := drop_step (l := s.data.toList) (q := p) (a := d ++ [44]) (b := r1) (by rw [e1]; simp)
            rw [List.length_append, List.length_singleton, ← e4] at d1
            rw [d1] at g1
            have d2 := drop_step (l := s.data.toList) (q := p + b1) (a := f ++ [32]) (b := r2) (by rw [d1, g1]; simp)
            rw [List.length_append, List.length_singleton, ← g4] at d2
            have i3 : s.data.toList[p + b1 + b2]? = some 34 := eq_of_beq i2
            have d2' := drop_at i3
            rw [d2] at d2'
            obtain ⟨r3, k1, k2⟩ := qz_back _ _ T N (Nat.le_refl _) z
            have d3 := drop_step (l := s.data.toList) (q := p + b1 + b2 + 1) (a := esc T ++ [34]) (b := r3) (by rw [k1]; simp)
            rw [List.length_append, List.length_singleton, ← k2] at d3
            have i5 : s.data.toList[p + b1 + b2 + 1 + N]? = some 10 := eq_of_beq i4
            have d3' := drop_at i5
            rw [d3] at d3'
            have hT : (⟨T.toArray⟩ : ByteArray).data.toList = T := by simp
            have hln : s.data.toList.drop p = ln ⟨n1, n2, ⟨T.toArray⟩⟩ ++ s.data.toList.drop (p + b1 + b2 + 1 + N + 1) := by
              rw [ln_eq]
              show _ = Lib.itoa n1 ++ 44 :: (Lib.itoa n2 ++ 32 :: 34 :: (esc (⟨T.toArray⟩ : ByteArray).data.toList ++ 34 :: [10])) ++ _
              rw [hT, e3, g3, ← nwh_itoa e2, ← nwh_itoa g2, e1, g1, d2', k1, d3']
              simp
            refine ⟨hln, ?_⟩
            have b1' := vl_bounds e2
            have b2' := vl_bounds g2
            refine ⟨by show _ ≤ n1; rw [e3]; exact b1'.1, by show n1 ≤ _; rw [e3]; exact b1'.2, by show _ ≤ n2; rw [g3]; exact b2'.1, by show n2 ≤ _; rw [g3]; exact b2'.2, ?_⟩
            have hlen := congrArg List.length k1
            rw [List.length_drop, bytes_len, List.length_append] at hlen
            have he : T.length ≤ (esc T).length := esc_ge T
            have : (⟨T.toArray⟩ : ByteArray).size = T.length := by simp [ByteArray.size]
            show (⟨T.toArray⟩ : ByteArray).size ≤ 140737488351232
            omega
end Go.Proofs.YteolfolkolpehaaDoor
