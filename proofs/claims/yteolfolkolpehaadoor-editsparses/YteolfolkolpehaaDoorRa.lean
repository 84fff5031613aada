import Derived.Test.YteolfolkolpehaaDoorRl
import Derived.Lib.AtoiAllCases
namespace Go.Proofs.YteolfolkolpehaaDoor
set_option linter.unusedVariables false

/-- a digit -/
def isD (c : UInt8) : Bool := decide (48 ≤ c.toNat ∧ c.toNat ≤ 57)
/-- what digits spell, behind a -/
def dv (a : Nat) (l : List UInt8) : Nat := l.foldl (fun a c => a * 10 + (c.toNat - 48)) a
theorem dv_nil (a : Nat) : dv a [] = a := by unfold dv; rw [List.foldl_nil]
theorem dv_cons (a : Nat) (c : UInt8) (r : List UInt8) : dv a (c :: r) = dv (a * 10 + (c.toNat - 48)) r := by unfold dv; rw [List.foldl_cons]
/-- a string behind another one -/
def gtB (d m : List UInt8) : Bool := !(Op.bytesLess d m || d == m)
def top7 : List UInt8 := [57, 50, 50, 51, 51, 55, 50, 48, 51, 54, 56, 53, 52, 55, 55, 53, 56, 48, 55]
def top8 : List UInt8 := [57, 50, 50, 51, 51, 55, 50, 48, 51, 54, 56, 53, 52, 55, 55, 53, 56, 48, 56]
/-- digits without a sign -/
def nw1 (d most : List UInt8) : Bool := d.all isD && !((decide (1 < d.length) && d.head? == some 48) || decide (19 < d.length) || (decide (d.length = 19) && gtB d most))
/-- a whole number -/
def nwh : List UInt8 → Bool
  | [] => false
  | c :: r => if c = 45 then (r != [] && r != [48] && nw1 r top8) else nw1 (c :: r) top7
/-- the beginning of one -/
def nwb (l : List UInt8) : Bool := l == [] || l == [45] || nwh l
def vl : List UInt8 → Int
  | [] => 0
  | c :: r => if c = 45 then -(dv 0 r : Int) else (dv 0 (c :: r) : Int)

theorem dv_le : ∀ (d : List UInt8) (p : Nat), p ≤ dv p d
  | [], p => by rw [dv_nil]; exact Nat.le_refl _
  | c :: r, p => by
    have := dv_le r (p * 10 + (c.toNat - 48))
    rw [dv_cons]; omega
theorem dv_low : ∀ (d : List UInt8) (p : Nat), p * 10 ^ d.length ≤ dv p d
  | [], p => by simp [dv_nil]
  | c :: r, p => by
    have h := dv_low r (p * 10 + (c.toNat - 48))
    rw [dv_cons, List.length_cons, Nat.pow_succ, Nat.mul_comm (10 ^ r.length) 10, ← Nat.mul_assoc]
    exact Nat.le_trans (Nat.mul_le_mul_right _ (by omega)) h
theorem isD_iff (c : UInt8) : isD c = true ↔ 48 ≤ c.toNat ∧ c.toNat ≤ 57 := by unfold isD; simp
theorem dv_up : ∀ (d : List UInt8) (p : Nat), d.all isD = true → dv p d < (p + 1) * 10 ^ d.length
  | [], p, _ => by simp [dv_nil]
  | c :: r, p, hd => by
    simp only [List.all_cons, Bool.and_eq_true] at hd
    have h1 := (isD_iff c).1 hd.1
    have h := dv_up r (p * 10 + (c.toNat - 48)) hd.2
    rw [dv_cons, List.length_cons, Nat.pow_succ, Nat.mul_comm (10 ^ r.length) 10, ← Nat.mul_assoc]
    exact Nat.lt_of_lt_of_le h (Nat.mul_le_mul_right _ (by omega))
theorem dv_lt : ∀ (x y : List UInt8) (p q : Nat), x.length = y.length → x.all isD = true → p < q → dv p x < dv q y
  | [], [], p, q, _, _, h => by rw [dv_nil, dv_nil]; exact h
  | [], b :: y, p, q, h, _, _ => by simp at h
  | a :: x, [], p, q, h, _, _ => by simp at h
  | a :: x, b :: y, p, q, h, hx, hpq => by
    simp only [List.all_cons, Bool.and_eq_true] at hx
    have h1 := (isD_iff a).1 hx.1
    rw [dv_cons, dv_cons]
    exact dv_lt x y _ _ (by simpa using h) hx.2 (by omega)
theorem gtB_cons (a b : UInt8) (x y : List UInt8) : gtB (a :: x) (b :: y) = (decide (b < a) || (a == b && gtB x y)) := by
  unfold gtB
  rw [Op.bytesLess]
  rw [show ((a :: x) == (b :: y)) = (a == b && x == y) from rfl]
  by_cases h : a = b
  · subst h
    simp [UInt8.lt_irrefl]
  · rw [beq_eq_false_iff_ne.2 h]
    simp only [Bool.false_and, Bool.or_false]
    by_cases h2 : a < b
    · simp [h2, UInt8.not_lt.2 (UInt8.le_of_lt h2)]
    · have h3 : b < a := by
        rcases UInt8.lt_or_lt_of_ne h with h3 | h3
        · exact absurd h3 h2
        · exact h3
      simp [h2, h3]
theorem gtB_iff : ∀ (x y : List UInt8) (p : Nat), x.length = y.length → x.all isD = true → y.all isD = true → (gtB x y = true ↔ dv p y < dv p x)
  | [], [], p, _, _, _ => by simp [gtB, Op.bytesLess, dv_nil]
  | [], b :: y, p, h, _, _ => by simp at h
  | a :: x, [], p, h, _, _ => by simp at h
  | a :: x, b :: y, p, h, hx, hy => by
    simp only [List.all_cons, Bool.and_eq_true] at hx hy
    have h1 := (isD_iff a).1 hx.1
    have h2 := (isD_iff b).1 hy.1
    have hl : x.length = y.length := by simpa using h
    rw [gtB_cons, dv_cons, dv_cons]
    by_cases e : a = b
    · subst e
      rw [beq_self_eq_true, Bool.true_and, decide_eq_false (UInt8.lt_irrefl a), Bool.false_or]
      exact gtB_iff x y _ hl hx.2 hy.2
    · rw [beq_eq_false_iff_ne.2 e]
      simp only [Bool.false_and, Bool.or_false, decide_eq_true_eq]
      rcases UInt8.lt_or_lt_of_ne e with h3 | h3
      · have h4 : a.toNat < b.toNat := UInt8.lt_iff_toNat_lt.1 h3
        have h5 := dv_lt x y (p * 10 + (a.toNat - 48)) (p * 10 + (b.toNat - 48)) hl hx.2 (by omega)
        constructor
        · intro h6; have := UInt8.lt_iff_toNat_lt.1 h6; omega
        · intro h6; omega
      · have h4 : b.toNat < a.toNat := UInt8.lt_iff_toNat_lt.1 h3
        have h5 := dv_lt y x (p * 10 + (b.toNat - 48)) (p * 10 + (a.toNat - 48)) hl.symm hy.2 (by omega)
        exact ⟨fun _ => h5, fun _ => h3⟩

theorem nw1_iff (M : Nat) (top d : List UInt8) (ht : top.length = 19) (ha : top.all isD = true) (hM : dv 0 top = M) (hM1 : 10 ^ 18 ≤ M) (hM2 : M < 10 ^ 19) (hd : d.all isD = true) (hne : d ≠ []) (h0 : d.head? ≠ some 48) : nw1 d top = decide (dv 0 d ≤ M) := by
  unfold nw1
  rw [hd, Bool.true_and, beq_eq_false_iff_ne.2 h0, Bool.and_false, Bool.false_or]
  cases d with
  | nil => exact absurd rfl hne
  | cons c r =>
    have hc : 49 ≤ c.toNat := by
      simp only [List.all_cons, Bool.and_eq_true] at hd
      have h1 := (isD_iff c).1 hd.1
      have h2 : c.toNat ≠ 48 := fun e => h0 (by rw [List.head?_cons, show c = 48 from UInt8.toNat_inj.1 e])
      omega
    have hup := dv_up (c :: r) 0 hd
    have hlo : 10 ^ r.length ≤ dv 0 (c :: r) := by
      have h1 := dv_low r (0 * 10 + (c.toNat - 48))
      rw [dv_cons]
      refine Nat.le_trans ?_ h1
      exact Nat.le_trans (by omega) (Nat.mul_le_mul_right (10 ^ r.length) (show 1 ≤ 0 * 10 + (c.toNat - 48) by omega))
    rw [Nat.zero_add, Nat.one_mul] at hup
    by_cases h1 : 19 < (c :: r).length
    · have h2 : 10 ^ 19 ≤ 10 ^ r.length := Nat.pow_le_pow_right (by omega) (by simp only [List.length_cons] at h1; omega)
      rw [decide_eq_true h1]
      rw [Bool.true_or, Bool.not_true]
      exact (decide_eq_false (by omega)).symm
    · rw [decide_eq_false h1, Bool.false_or]
      by_cases h2 : (c :: r).length = 19
      · have h3 := gtB_iff (c :: r) top 0 (by omega) hd ha
        rw [decide_eq_true h2, Bool.true_and]
        cases hg : gtB (c :: r) top
        · rw [hg] at h3
          have h4 : ¬ dv 0 top < dv 0 (c :: r) := fun h => Bool.noConfusion (h3.2 h)
          exact (decide_eq_true (by omega)).symm
        · have h4 := h3.1 hg
          exact (decide_eq_false (by omega)).symm
      · rw [decide_eq_false h2, Bool.false_and, Bool.not_false]
        have h4 : 10 ^ (c :: r).length ≤ 10 ^ 18 := Nat.pow_le_pow_right (by omega) (by omega)
        exact (decide_eq_true (by omega)).symm
theorem head_ne {d : List UInt8} (hd : d.all isD = true) : d.head? ≠ some 45 := by
  cases d with
  | nil => simp
  | cons c r =>
    simp only [List.all_cons, Bool.and_eq_true] at hd
    have h1 := (isD_iff c).1 hd.1
    intro h
    have h2 : c = 45 := Option.some.inj h
    subst h2
    exact absurd h1.1 (by decide)
theorem nwh_plain {d : List UInt8} (hd : d.all isD = true) (hne : d ≠ []) (h0 : d.head? ≠ some 48) : nwh ([] ++ d) = decide (dv 0 d ≤ 9223372036854775807) := by
  have h1 := head_ne hd
  cases d with
  | nil => exact absurd rfl hne
  | cons c r =>
    rw [List.nil_append, nwh, if_neg (fun e => h1 (by rw [e]; rfl))]
    exact nw1_iff 9223372036854775807 top7 _ rfl (by decide) (by decide) (by decide) (by decide) hd hne h0
theorem nwh_minus {d : List UInt8} (hd : d.all isD = true) (hne : d ≠ []) (h0 : d.head? ≠ some 48) : nwh ([45] ++ d) = decide (dv 0 d ≤ 9223372036854775808) := by
  rw [List.singleton_append, nwh, if_pos rfl]
  have h2 : (d != [48]) = true := bne_iff_ne.2 (fun e => h0 (by rw [e]; rfl))
  rw [bne_iff_ne.2 hne, h2, Bool.true_and, Bool.true_and]
  exact nw1_iff 9223372036854775808 top8 _ rfl (by decide) (by decide) (by decide) (by decide) hd hne h0
theorem nw1_bad {d most : List UInt8} (h : d.all isD = false) : nw1 d most = false := by unfold nw1; rw [h, Bool.false_and]
theorem nwh_bad {pf d : List UInt8} {x : UInt8} (hp : pf = [] ∨ pf = [45]) (hx : isD x = false) (hne : d ≠ []) (hd : d.all isD = true) : nwh (pf ++ (d ++ [x])) = false := by
  have h1 : (d ++ [x]).all isD = false := by rw [List.all_append]; simp [hx]
  rcases hp with rfl | rfl
  · have h2 := head_ne hd
    cases d with
    | nil => exact absurd rfl hne
    | cons c r =>
      rw [List.nil_append, List.cons_append, nwh, if_neg (fun e => h2 (by rw [e]; rfl))]
      exact nw1_bad h1
  · rw [List.singleton_append, nwh, if_pos rfl, nw1_bad h1, Bool.and_false]
theorem dv_snoc : ∀ (d : List UInt8) (p : Nat) (x : UInt8), dv p (d ++ [x]) = dv p d * 10 + (x.toNat - 48)
  | [], p, x => by rw [List.nil_append, dv_cons, dv_nil, dv_nil]
  | c :: r, p, x => by rw [List.cons_append, dv_cons, dv_cons, dv_snoc r]

theorem pu_ok : ∀ (d : List UInt8) (p : Nat), d.all isD = true → dv p d ≤ 9223372036854775808 → Lib.parseUint10 p d = .ok (dv p d)
  | [], p, _, _ => by rw [dv_nil]; rfl
  | c :: r, p, hd, h => by
    simp only [List.all_cons, Bool.and_eq_true] at hd
    have h1 := (isD_iff c).1 hd.1
    rw [dv_cons] at h
    have h2 := dv_le r (p * 10 + (c.toNat - 48))
    rw [Lib.parseUint10, if_pos h1, if_neg (by omega), if_neg (by omega), dv_cons]
    exact pu_ok r _ hd.2 h
theorem mag_ok {d : List UInt8} (hd : d.all isD = true) (hne : d ≠ []) (h : dv 0 d ≤ 9223372036854775808) : Lib.parseMag d = .ok (dv 0 d) := by
  unfold Lib.parseMag
  rw [if_neg hne]
  exact pu_ok d 0 hd h
theorem vl_plain {d : List UInt8} (hd : d.all isD = true) : vl ([] ++ d) = (dv 0 d : Int) := by
  have h2 := head_ne hd
  cases d with
  | nil => rw [dv_nil]; rfl
  | cons c r => rw [List.nil_append, vl, if_neg (fun e => h2 (by rw [e]; rfl))]
theorem vl_minus (d : List UInt8) : vl ([45] ++ d) = -(dv 0 d : Int) := by
  rw [List.singleton_append, vl, if_pos rfl]
theorem nw1_all {d most : List UInt8} (h : nw1 d most = true) : d.all isD = true := by
  unfold nw1 at h
  exact (Bool.and_eq_true_iff.1 h).1
theorem nw1_zero {d most : List UInt8} (h : nw1 d most = true) (h0 : d.head? = some 48) : d = [48] := by
  unfold nw1 at h
  have h2 := (Bool.and_eq_true_iff.1 h).2
  cases d with
  | nil => cases h0
  | cons c r =>
    rw [h0] at h2
    have hc : c = 48 := Option.some.inj h0
    subst hc
    cases r with
    | nil => rfl
    | cons a r => simp at h2
/-- what is a number is read as one -/
theorem nwh_atoi {l : List UInt8} (h : nwh l = true) : Lib.atoiAll l = .ok (vl l) := by
  cases l with
  | nil => cases h
  | cons c r =>
    by_cases hc : c = 45
    · subst hc
      rw [nwh, if_pos rfl] at h
      simp only [Bool.and_eq_true, bne_iff_ne] at h
      obtain ⟨⟨h1, h2⟩, h3⟩ := h
      have hd := nw1_all h3
      have h0 : r.head? ≠ some 48 := fun e => h2 (nw1_zero h3 e)
      have hv := nwh_minus hd h1 h0
      rw [List.singleton_append, nwh, if_pos rfl, bne_iff_ne.2 h1, bne_iff_ne.2 h2, h3] at hv
      have hv := of_decide_eq_true hv.symm
      rw [Lib.atoiAll_minus, mag_ok hd h1 hv, vl, if_pos rfl]
      show (if _ then _ else _) = _
      rw [if_neg (by omega)]
    · rw [nwh, if_neg hc] at h
      have hd := nw1_all h
      have hc' := (isD_iff c).1 (by simp only [List.all_cons, Bool.and_eq_true] at hd; exact hd.1)
      rw [Lib.atoiAll_plain c r (by omega) (by omega), vl, if_neg hc]
      by_cases h0 : (c :: r).head? = some 48
      · have e := nw1_zero h h0
        rw [e]
        rfl
      · have hv := nwh_plain hd (by simp) h0
        rw [List.nil_append, nwh, if_neg hc, h] at hv
        have hv := of_decide_eq_true hv.symm
        rw [mag_ok hd (by simp) (by omega)]
        show (if _ then _ else _) = _
        rw [if_neg (by omega)]

/-- the reference's take: the number, how many bytes were passed, whether it is one -/
def tkR (e : UInt8) : List UInt8 → List UInt8 → Int × Nat × Bool
  | _, [] => (0, 0, false)
  | pre, x :: r => if x = e ∧ nwh pre = true then (vl pre, 1, true) else if nwb (pre ++ [x]) = true then ((tkR e (pre ++ [x]) r).1, (tkR e (pre ++ [x]) r).2.1 + 1, (tkR e (pre ++ [x]) r).2.2) else (0, 0, false)

/-- what a number is followed by -/
def fin (e : UInt8) (l : List UInt8) (z : Int × Nat × Bool) : Int × Nat × Bool := if z.2.2 = true ∧ l[z.2.1]? = some e then (z.1, z.2.1 + 1, true) else (0, z.2.1, false)

theorem tdiv10 {n L D : Int} (h : L + D ≤ 0) : (n < (L + D).tdiv 10) ↔ n * 10 - D < L := by
  obtain ⟨m, hm⟩ : ∃ m : Nat, L + D = -(m : Int) := ⟨(-(L + D)).toNat, by omega⟩
  rw [hm, show (-(m : Int)).tdiv 10 = -((m / 10 : Nat) : Int) by rw [Int.neg_tdiv]; rfl]
  omega

theorem fin_succ (e : UInt8) (x : UInt8) (r : List UInt8) (a : Int) (b : Nat) (c : Bool) : fin e (x :: r) (a, b + 1, c) = ((fin e r (a, b, c)).1, (fin e r (a, b, c)).2.1 + 1, (fin e r (a, b, c)).2.2) := by
  unfold fin
  simp only [List.getElem?_cons_succ]
  by_cases h : c = true ∧ r[b]? = some e
  · rw [if_pos h, if_pos h]
  · rw [if_neg h, if_neg h]

theorem tk_digits (e : UInt8) (he : isD e = false) (pf : List UInt8) (M : Nat) (sg : Int) (hp : pf = [] ∨ pf = [45]) (hM : 10 ≤ M)
    (hW : ∀ d : List UInt8, d.all isD = true → d ≠ [] → d.head? ≠ some 48 → nwh (pf ++ d) = decide (dv 0 d ≤ M))
    (hv : ∀ d : List UInt8, d.all isD = true → vl (pf ++ d) = sg * -(dv 0 d : Int)) :
    ∀ (r d : List UInt8), d.all isD = true → d ≠ [] → d.head? ≠ some 48 → dv 0 d ≤ M →
      tkR e (pf ++ d) r = fin e r (sg * (nz (-(M : Int)) false (-(dv 0 d : Int)) r).1, (nz (-(M : Int)) false (-(dv 0 d : Int)) r).2.1, (nz (-(M : Int)) false (-(dv 0 d : Int)) r).2.2)
  | [], d, _, _, _, _ => by simp [tkR, nz, fin]
  | x :: r, d, hd, hne, h0, hm => by
    have hw := hW d hd hne h0
    rw [decide_eq_true hm] at hw
    have hnb : nwb (pf ++ d ++ [x]) = nwh (pf ++ (d ++ [x])) := by
      rw [List.append_assoc]
      unfold nwb
      have h1 : (pf ++ (d ++ [x]) == []) = false := beq_eq_false_iff_ne.2 (by simp)
      have h2 : (pf ++ (d ++ [x]) == [45]) = false := beq_eq_false_iff_ne.2 (by
        intro h
        have := congrArg List.length h
        have hl : 0 < d.length := List.length_pos_iff.2 hne
        simp at this
        omega)
      rw [h1, h2, Bool.false_or, Bool.false_or]
    rw [tkR, nz]
    by_cases hx : isD x = true
    · have hx1 := (isD_iff x).1 hx
      have hxe : ¬ (x = e ∧ nwh (pf ++ d) = true) := fun h => by rw [h.1, he] at hx; cases hx
      have hdx : (d ++ [x]).all isD = true := by rw [List.all_append, hd]; simp [hx]
      have hnx : d ++ [x] ≠ [] := by simp
      have h0x : (d ++ [x]).head? ≠ some 48 := by
        cases d with
        | nil => exact absurd rfl hne
        | cons c r => exact h0
      have hwx := hW (d ++ [x]) hdx hnx h0x
      rw [dv_snoc] at hwx
      rw [if_neg hxe, hnb, hwx]
      rw [if_neg (show ¬ ((x.toNat : Int) - 48 < 0 ∨ 9 < (x.toNat : Int) - 48) by omega)]
      have htd := tdiv10 (n := -(dv 0 d : Int)) (L := -(M : Int)) (D := (x.toNat : Int) - 48) (by omega)
      by_cases hf : dv 0 d * 10 + (x.toNat - 48) ≤ M
      · rw [decide_eq_true hf, if_pos rfl]
        rw [if_neg (show ¬ ((false = true ∧ (x.toNat : Int) - 48 = 0) ∨ -(dv 0 d : Int) < (-(M : Int) + ((x.toNat : Int) - 48)).tdiv 10) by
          rintro (⟨h, -⟩ | h)
          · cases h
          · have := htd.1 h; omega)]
        have ih := tk_digits e he pf M sg hp hM hW hv r (d ++ [x]) hdx hnx h0x (by rw [dv_snoc]; exact hf)
        rw [dv_snoc, show -((dv 0 d * 10 + (x.toNat - 48) : Nat) : Int) = -(dv 0 d : Int) * 10 - ((x.toNat : Int) - 48) by omega] at ih
        rw [List.append_assoc, ih, fin_succ]
      · rw [decide_eq_false hf, if_neg Bool.false_ne_true]
        rw [if_pos (Or.inr (htd.2 (by omega)))]
        simp [fin]
    · have hx1 : ¬ (48 ≤ x.toNat ∧ x.toNat ≤ 57) := fun h => hx ((isD_iff x).2 h)
      rw [if_pos (show (x.toNat : Int) - 48 < 0 ∨ 9 < (x.toNat : Int) - 48 by omega)]
      by_cases hxe : x = e
      · rw [if_pos ⟨hxe, hw⟩, hv d hd]
        simp [fin, hxe]
      · rw [if_neg (fun h => hxe h.1), hnb, nwh_bad hp (by simpa using hx) hne hd, if_neg Bool.false_ne_true]
        have hxe2 : ¬ ((!false) = true ∧ (x :: r)[0]? = some e) := fun h => hxe (Option.some.inj h.2)
        unfold fin
        rw [if_neg hxe2]

/-- the code's number, of what is left -/
def numL (l : List UInt8) : Int × Nat × Bool :=
  if l[0]? = some 48 then (0, 1, true)
  else if l[0]? = some 45 then ((nz (-9223372036854775808) true 0 l.tail).1, 1 + (nz (-9223372036854775808) true 0 l.tail).2.1, (nz (-9223372036854775808) true 0 l.tail).2.2)
  else (-(nz (-9223372036854775807) true 0 l).1, (nz (-9223372036854775807) true 0 l).2.1, (nz (-9223372036854775807) true 0 l).2.2)

theorem nwb_two (a x : UInt8) : nwb [a, x] = nwh [a, x] := by
  unfold nwb
  have h1 : ([a, x] == []) = false := rfl
  have h2 : ([a, x] == [45]) = false := beq_eq_false_iff_ne.2 (by simp)
  rw [h1, h2, Bool.false_or, Bool.false_or]

theorem tk_num (e : UInt8) (he : isD e = false) (he2 : e ≠ 45) (l : List UInt8) : tkR e [] l = fin e l (numL l) := by
  cases l with
  | nil => simp [tkR, numL, nz, fin]
  | cons x r =>
    have hq : ¬ (x = e ∧ nwh [] = true) := fun h => by cases h.2
    rw [tkR, if_neg hq, List.nil_append]
    by_cases h48 : x = 48
    · subst h48
      have hb : nwb [48] = true := by decide
      rw [if_pos hb]
      have hn : numL (48 :: r) = (0, 1, true) := by unfold numL; rw [if_pos (by simp)]
      rw [hn]
      cases r with
      | nil => simp [tkR, fin]
      | cons y r =>
        rw [tkR]
        have hw : nwh [48] = true := by decide
        by_cases hy : y = e
        · rw [if_pos ⟨hy, hw⟩]
          simp [fin, hy, vl, dv_cons, dv_nil]
        · rw [if_neg (fun h => hy h.1)]
          have hbad : nwb ([48] ++ [y]) = false := by
            rw [List.singleton_append, nwb_two]
            rw [nwh, if_neg (by decide)]
            unfold nw1
            simp
          rw [if_neg (by rw [hbad]; exact Bool.false_ne_true)]
          simp [fin, hy]
    · by_cases h45 : x = 45
      · subst h45
        have hb : nwb [45] = true := by decide
        rw [if_pos hb]
        have hn : numL (45 :: r) = ((nz (-9223372036854775808) true 0 r).1, 1 + (nz (-9223372036854775808) true 0 r).2.1, (nz (-9223372036854775808) true 0 r).2.2) := by
          unfold numL; rw [if_neg (by simp), if_pos (by simp)]; rfl
        rw [hn, Nat.add_comm 1, fin_succ]
        suffices h : tkR e [45] r = fin e r ((nz (-9223372036854775808) true 0 r).1, (nz (-9223372036854775808) true 0 r).2.1, (nz (-9223372036854775808) true 0 r).2.2) by rw [h]
        cases r with
        | nil => simp [tkR, nz, fin]
        | cons y r =>
          have hq2 : ¬ (y = e ∧ nwh [45] = true) := fun h => by cases h.2
          rw [tkR, if_neg hq2, List.singleton_append, nwb_two, nz]
          by_cases hy : isD y = true
          · have hy1 := (isD_iff y).1 hy
            rw [if_neg (show ¬ ((y.toNat : Int) - 48 < 0 ∨ 9 < (y.toNat : Int) - 48) by omega)]
            by_cases hy0 : y = 48
            · subst hy0
              rw [if_neg (by decide), if_pos (Or.inl ⟨rfl, rfl⟩)]
              simp [fin]
            · have hyn : y.toNat ≠ 48 := fun h => hy0 (UInt8.toNat_inj.1 h)
              have hda : [y].all isD = true := by simp [hy]
              have h0 : [y].head? ≠ some 48 := fun h => hy0 (Option.some.inj h)
              have hdv : dv 0 [y] = y.toNat - 48 := by simp [dv_cons, dv_nil]
              have hw := nwh_minus hda (by simp) h0
              rw [hdv, decide_eq_true (by omega)] at hw
              rw [List.singleton_append] at hw
              rw [if_pos hw]
              have htd := tdiv10 (n := 0) (L := -9223372036854775808) (D := (y.toNat : Int) - 48) (by omega)
              rw [if_neg (show ¬ ((true = true ∧ (y.toNat : Int) - 48 = 0) ∨ (0 : Int) < (-9223372036854775808 + ((y.toNat : Int) - 48)).tdiv 10) by
                rintro (⟨-, h⟩ | h)
                · omega
                · have := htd.1 h; omega)]
              have ih := tk_digits e he [45] 9223372036854775808 1 (Or.inr rfl) (by decide) (fun d hd hne h0 => nwh_minus hd hne h0) (fun d hd => by rw [vl_minus]; omega) r [y] hda (by simp) h0 (by rw [hdv]; omega)
              rw [hdv, show -((y.toNat - 48 : Nat) : Int) = 0 * 10 - ((y.toNat : Int) - 48) by omega, show (-((9223372036854775808 : Nat) : Int)) = -9223372036854775808 by decide] at ih
              rw [List.singleton_append] at ih
              rw [ih, fin_succ, Int.one_mul]
          · have hy1 : ¬ (48 ≤ y.toNat ∧ y.toNat ≤ 57) := fun h => hy ((isD_iff y).2 h)
            rw [if_pos (show (y.toNat : Int) - 48 < 0 ∨ 9 < (y.toNat : Int) - 48 by omega)]
            have hbad : nwh [45, y] = false := by
              rw [nwh, if_pos rfl, nw1_bad (by simp; simpa using hy), Bool.and_false]
            rw [if_neg (by rw [hbad]; exact Bool.false_ne_true)]
            simp [fin]
      · have hn : numL (x :: r) = (-(nz (-9223372036854775807) true 0 (x :: r)).1, (nz (-9223372036854775807) true 0 (x :: r)).2.1, (nz (-9223372036854775807) true 0 (x :: r)).2.2) := by
          unfold numL
          rw [if_neg (show ¬ (x :: r)[0]? = some 48 from fun h => h48 (Option.some.inj h)), if_neg (show ¬ (x :: r)[0]? = some 45 from fun h => h45 (Option.some.inj h))]
        have hnb : nwb [x] = nwh [x] := by
          unfold nwb
          rw [show ([x] == []) = false from rfl, beq_eq_false_iff_ne.2 (show [x] ≠ [45] from fun h => h45 (by simpa using h)), Bool.false_or, Bool.false_or]
        rw [hn, hnb, nz]
        by_cases hy : isD x = true
        · have hy1 := (isD_iff x).1 hy
          have hyn : x.toNat ≠ 48 := fun h => h48 (UInt8.toNat_inj.1 h)
          have hda : [x].all isD = true := by simp [hy]
          have h0 : [x].head? ≠ some 48 := fun h => h48 (Option.some.inj h)
          have hdv : dv 0 [x] = x.toNat - 48 := by simp [dv_cons, dv_nil]
          have hw := nwh_plain hda (by simp) h0
          rw [hdv, decide_eq_true (by omega), List.nil_append] at hw
          rw [if_pos hw]
          rw [if_neg (show ¬ ((x.toNat : Int) - 48 < 0 ∨ 9 < (x.toNat : Int) - 48) by omega)]
          have htd := tdiv10 (n := 0) (L := -9223372036854775807) (D := (x.toNat : Int) - 48) (by omega)
          rw [if_neg (show ¬ ((true = true ∧ (x.toNat : Int) - 48 = 0) ∨ (0 : Int) < (-9223372036854775807 + ((x.toNat : Int) - 48)).tdiv 10) by
            rintro (⟨-, h⟩ | h)
            · omega
            · have := htd.1 h; omega)]
          have ih := tk_digits e he [] 9223372036854775807 (-1) (Or.inl rfl) (by decide) (fun d hd hne h0 => nwh_plain hd hne h0) (fun d hd => by rw [vl_plain hd]; omega) r [x] hda (by simp) h0 (by rw [hdv]; omega)
          rw [hdv, show -((x.toNat - 48 : Nat) : Int) = 0 * 10 - ((x.toNat : Int) - 48) by omega, show (-((9223372036854775807 : Nat) : Int)) = -9223372036854775807 by decide] at ih
          rw [List.nil_append] at ih
          rw [ih, fin_succ]
          rw [show ∀ z : Int, -1 * z = -z from fun z => by omega]
        · have hy1 : ¬ (48 ≤ x.toNat ∧ x.toNat ≤ 57) := fun h => hy ((isD_iff x).2 h)
          rw [if_pos (show (x.toNat : Int) - 48 < 0 ∨ 9 < (x.toNat : Int) - 48 by omega)]
          have hbad : nwh [x] = false := by
            rw [nwh, if_neg h45, nw1_bad (by simp; simpa using hy)]
          rw [if_neg (by rw [hbad]; exact Bool.false_ne_true)]
          simp [fin]

theorem isAt_dec (s : ByteArray) (q : Nat) (c : UInt8) : isAt s q c = decide (s.data.toList[q]? = some c) := by
  unfold isAt
  by_cases h : s.data.toList[q]? = some c
  · rw [h, decide_eq_true rfl, beq_self_eq_true]
  · rw [decide_eq_false h, beq_eq_false_iff_ne.2 h]
/-- the code's number is that of what is left -/
theorem numA_L (s : ByteArray) (p : Nat) : numA s p = ((numL (s.data.toList.drop p)).1, p + (numL (s.data.toList.drop p)).2.1, (numL (s.data.toList.drop p)).2.2) := by
  unfold numA numL
  rw [isAt_dec, isAt_dec]
  simp only [List.getElem?_drop, Nat.add_zero, decide_eq_true_eq, List.tail_drop]
  by_cases h1 : s.data.toList[p]? = some 48
  · rw [if_pos h1, if_pos h1]
  · rw [if_neg h1, if_neg h1]
    by_cases h2 : s.data.toList[p]? = some 45
    · rw [if_pos h2, if_pos h2]
      simp only [Nat.add_assoc]
    · rw [if_neg h2, if_neg h2]
/-- the reference's take, by the code's number -/
def tkA (s : ByteArray) (p : Nat) (e : UInt8) : Int × Nat × Bool :=
  if (numA s p).2.2 && isAt s (numA s p).2.1 e then ((numA s p).1, (numA s p).2.1 + 1, true) else (0, (numA s p).2.1, false)
theorem tk_A (s : ByteArray) (p : Nat) (e : UInt8) (he : isD e = false) (he2 : e ≠ 45) : ((tkR e [] (s.data.toList.drop p)).1, p + (tkR e [] (s.data.toList.drop p)).2.1, (tkR e [] (s.data.toList.drop p)).2.2) = tkA s p e := by
  rw [tk_num e he he2]
  unfold tkA fin
  rw [numA_L, isAt_dec]
  simp only [List.getElem?_drop]
  by_cases h : (numL (s.data.toList.drop p)).2.2 = true ∧ s.data.toList[p + (numL (s.data.toList.drop p)).2.1]? = some e
  · rw [if_pos h, h.1, decide_eq_true h.2]
    rfl
  · rw [if_neg h, if_neg (by simpa using h)]
end Go.Proofs.YteolfolkolpehaaDoor
