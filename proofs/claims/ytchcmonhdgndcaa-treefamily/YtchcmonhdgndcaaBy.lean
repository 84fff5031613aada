import Derived.Test.YtchcmonhdgndcaaAtP
import Derived.Test.YtchcmonhdgndcaaUpP
import Derived.Test.YtchcmonhdgndcaaVl4
namespace Go.Proofs.Ytchcmonhdgndcaa
open Go.ChangeShapes Go.WideShapes Go.ChangeAt Go.RowKit
set_option linter.unusedVariables false

/-- do pieces follow one another from a place on, within L bytes? -/
def fol (L : Int) : Int → List Tk → Bool
  | _, [] => true
  | at_, p :: ps => decide (p.f = at_) && decide (p.f ≤ p.t) && decide (p.t ≤ L) && fol L p.t ps
/-- the end of pieces that begin at a place -/
def endT : Int → List Tk → Int
  | at_, [] => at_
  | _, p :: ps => endT p.t ps

theorem fol_cons {L at_ : Int} {p : Tk} {ps : List Tk} (h : fol L at_ (p :: ps) = true) : p.f = at_ ∧ p.f ≤ p.t ∧ p.t ≤ L ∧ fol L p.t ps = true := by
  simpa [fol, and_assoc] using h
theorem fol_ge {L : Int} : ∀ (ps : List Tk) (at_ : Int), fol L at_ ps = true → at_ ≤ endT at_ ps ∧ ∀ (i : Nat) (p : Tk), ps[i]? = some p → at_ ≤ p.f ∧ p.f ≤ p.t ∧ p.t ≤ endT at_ ps := by
  intro ps
  induction ps with
  | nil => intro at_ _; exact ⟨Int.le_refl _, fun i p h => by simp at h⟩
  | cons q qs ih =>
    intro at_ h
    obtain ⟨h1, h2, h3, h4⟩ := fol_cons h
    obtain ⟨i1, i2⟩ := ih q.t h4
    refine ⟨by show at_ ≤ endT q.t qs; omega, fun i p hp => ?_⟩
    show at_ ≤ p.f ∧ p.f ≤ p.t ∧ p.t ≤ endT q.t qs
    cases i with
    | zero =>
      simp only [List.getElem?_cons_zero, Option.some.injEq] at hp
      subst hp
      exact ⟨by omega, h2, i1⟩
    | succ i =>
      rw [List.getElem?_cons_succ] at hp
      obtain ⟨j1, j2, j3⟩ := i2 i p hp
      exact ⟨by omega, j2, j3⟩
theorem fol_mono {L : Int} : ∀ (ps : List Tk) (at_ : Int), fol L at_ ps = true → ∀ (i j : Nat) (p q : Tk), i ≤ j → ps[i]? = some p → ps[j]? = some q → p.f ≤ q.f ∧ p.t ≤ q.t := by
  intro ps
  induction ps with
  | nil => intro at_ _ i j p q _ h; simp at h
  | cons r rs ih =>
    intro at_ h i j p q hij hp hq
    obtain ⟨h1, h2, h3, h4⟩ := fol_cons h
    cases i with
    | zero =>
      simp only [List.getElem?_cons_zero, Option.some.injEq] at hp
      subst hp
      cases j with
      | zero => simp only [List.getElem?_cons_zero, Option.some.injEq] at hq; subst hq; exact ⟨Int.le_refl _, Int.le_refl _⟩
      | succ j =>
        rw [List.getElem?_cons_succ] at hq
        obtain ⟨j1, j2, -⟩ := (fol_ge rs r.t h4).2 j q hq
        exact ⟨by omega, by omega⟩
    | succ i =>
      cases j with
      | zero => omega
      | succ j =>
        rw [List.getElem?_cons_succ] at hp hq
        exact ih r.t h4 i j p q (by omega) hp hq
theorem endT_last : ∀ (ps : List Tk) (at_ : Int) (k : Nat) (p : Tk), ps.length = k + 1 → ps[k]? = some p → endT at_ ps = p.t := by
  intro ps
  induction ps with
  | nil => intro at_ k p h; simp at h
  | cons q qs ih =>
    intro at_ k p hl hp
    cases k with
    | zero =>
      simp at hl; subst hl
      simp only [List.getElem?_cons_zero, Option.some.injEq] at hp
      subst hp; rfl
    | succ k =>
      rw [List.getElem?_cons_succ] at hp
      exact ih q.t k p (by simp at hl; omega) hp

theorem atB_yes {ts : List Tk} {off : Int} {x : Nd} (h : atB ts off x = true) : ∃ (m n : Nat) (p q : Tk), x.f = (m : Int) ∧ x.e = (n : Int) + 1 ∧ m ≤ n ∧ n < ts.length ∧ ts[m]? = some p ∧ ts[n]? = some q ∧ p.f ≤ off ∧ off < q.t := by
  unfold atB at h
  split at h
  · rename_i hc
    obtain ⟨m, hm⟩ : ∃ m : Nat, x.f = (m : Int) := ⟨x.f.toNat, by omega⟩
    obtain ⟨n, hn⟩ : ∃ n : Nat, x.e = (n : Int) + 1 := ⟨(x.e - 1).toNat, by omega⟩
    rw [hm, hn, Int.toNat_natCast, show ((n : Int) + 1 - 1).toNat = n by omega] at h
    obtain ⟨p, hp⟩ : ∃ p, ts[m]? = some p := ⟨_, List.getElem?_eq_getElem (by omega)⟩
    obtain ⟨q, hq⟩ : ∃ q, ts[n]? = some q := ⟨_, List.getElem?_eq_getElem (by omega)⟩
    rw [hp, hq] at h
    simp only [Bool.and_eq_true, decide_eq_true_eq] at h
    exact ⟨m, n, p, q, hm, hn, by omega, by omega, hp, hq, h.1, h.2⟩
  · cases h
/-- a place that no piece holds is in no node -/
theorem atB_low {L : Int} {ts : List Tk} (hf : fol L 0 ts = true) {off : Int} (h : off < 0 ∨ endT 0 ts ≤ off) (x : Nd) : atB ts off x = false := by
  rw [Bool.eq_false_iff]
  intro hy
  obtain ⟨m, n, p, q, -, -, -, -, hp, hq, h1, h2⟩ := atB_yes hy
  obtain ⟨a1, -, -⟩ := (fol_ge ts 0 hf).2 m p hp
  obtain ⟨-, -, b3⟩ := (fol_ge ts 0 hf).2 n q hq
  omega
/-- what lies around holds it too -/
theorem atB_up {L : Int} {ts : List Tk} (hf : fol L 0 ts = true) {off : Int} {x p : Nd} (h : atB ts off x = true) (h0 : 0 ≤ p.f) (h1 : p.f ≤ x.f) (h2 : x.e ≤ p.e) (h3 : p.e ≤ (ts.length : Int)) : atB ts off p = true := by
  obtain ⟨m, n, a, b, e1, e2, hmn, hn, ha, hb, g1, g2⟩ := atB_yes h
  obtain ⟨m', hm'⟩ : ∃ m : Nat, p.f = (m : Int) := ⟨p.f.toNat, by omega⟩
  obtain ⟨n', hn'⟩ : ∃ n : Nat, p.e = (n : Int) + 1 := ⟨(p.e - 1).toNat, by omega⟩
  obtain ⟨a', ha'⟩ : ∃ q, ts[m']? = some q := ⟨_, List.getElem?_eq_getElem (by omega)⟩
  obtain ⟨b', hb'⟩ : ∃ q, ts[n']? = some q := ⟨_, List.getElem?_eq_getElem (by omega)⟩
  rw [atB_in hm' hn' (by omega) (by omega) ha' hb']
  have k1 := (fol_mono ts 0 hf m' m a' a (by omega) ha' ha).1
  have k2 := (fol_mono ts 0 hf n n' b b' (by omega) hb hb').2
  simp only [Bool.and_eq_true, decide_eq_true_eq]
  omega

theorem atF_spec (ts : List Tk) (ns : List Nd) (off : Int) : ∀ k : Nat, (atF ts ns off k = -1 ∧ ∀ (j : Nat) (x : Nd), j < k → ns[j]? = some x → atB ts off x = false) ∨
    ∃ (m : Nat) (x : Nd), m < k ∧ atF ts ns off k = (m : Int) ∧ ns[m]? = some x ∧ atB ts off x = true ∧ ∀ (j : Nat) (y : Nd), m < j → j < k → ns[j]? = some y → atB ts off y = false := by
  intro k
  induction k with
  | zero => exact .inl ⟨rfl, fun j x h => by omega⟩
  | succ k ih =>
    cases hx : ns[k]? with
    | none =>
      have e : atF ts ns off (k + 1) = atF ts ns off k := by rw [atF, hx]
      rw [e]
      rcases ih with ⟨h1, h2⟩ | ⟨m, x, h1, h2, h3, h4, h5⟩
      · exact .inl ⟨h1, fun j y hj hy => by
          by_cases e : j = k
          · rw [e, hx] at hy; cases hy
          · exact h2 j y (by omega) hy⟩
      · exact .inr ⟨m, x, by omega, h2, h3, h4, fun j y hj hk hy => by
          by_cases e : j = k
          · rw [e, hx] at hy; cases hy
          · exact h5 j y hj (by omega) hy⟩
    | some z =>
      cases hb : atB ts off z with
      | true => exact .inr ⟨k, z, by omega, atF_yes hx hb, hx, hb, fun j y h1 h2 => by omega⟩
      | false =>
        rw [atF_no hx hb]
        rcases ih with ⟨h1, h2⟩ | ⟨m, x, h1, h2, h3, h4, h5⟩
        · exact .inl ⟨h1, fun j y hj hy => by
            by_cases e : j = k
            · rw [e, hx] at hy; cases hy; exact hb
            · exact h2 j y (by omega) hy⟩
        · exact .inr ⟨m, x, by omega, h2, h3, h4, fun j y hj hk hy => by
            by_cases e : j = k
            · rw [e, hx] at hy; cases hy; exact hb
            · exact h5 j y hj (by omega) hy⟩

theorem upF_spec (ns : List Nd) (n : Nat) : ∀ k : Nat, upF ns n k = -1 ∨ ∃ (m : Nat) (x : Nd), m < k ∧ upF ns n k = (m : Int) ∧ ns[m]? = some x ∧ (n : Int) ∈ kdl ns m := by
  intro k
  induction k with
  | zero => exact .inl rfl
  | succ k ih =>
    cases hx : ns[k]? with
    | none =>
      have e : upF ns n (k + 1) = upF ns n k := by rw [upF, hx]
      rw [e]
      rcases ih with h | ⟨m, x, h1, h2, h3, h4⟩
      · exact .inl h
      · exact .inr ⟨m, x, by omega, h2, h3, h4⟩
    | some z =>
      cases hb : upB ns n k z with
      | true =>
        refine .inr ⟨k, z, by omega, upF_yes hx hb, hx, ?_⟩
        unfold upB at hb
        simp only [Bool.and_eq_true] at hb
        exact List.contains_iff_mem.1 hb.2
      | false =>
        rw [upF_no hx hb]
        rcases ih with h | ⟨m, x, h1, h2, h3, h4⟩
        · exact .inl h
        · exact .inr ⟨m, x, by omega, h2, h3, h4⟩

theorem kds_gt (ns : List Nd) (e : Nat) : ∀ (d k : Nat), e - k ≤ d → ∀ l, kds ns e k = some l → ∀ y ∈ l, (k : Int) ≤ y := by
  intro d
  induction d with
  | zero => intro k hd l h y hy; rw [kds_end (by omega)] at h; cases h; cases hy
  | succ d ih =>
    intro k hd l h y hy
    by_cases hk : k < e
    · cases hx : ns[k]? with
      | none => rw [kds, dif_pos hk, hx] at h; simp at h
      | some x =>
        by_cases hs : 1 ≤ x.s ∧ x.s ≤ (e : Int) - k
        · rw [kds_step hk hx hs.1 hs.2] at h
          obtain ⟨l', h', rfl⟩ := Option.map_eq_some_iff.1 h
          rcases List.mem_cons.1 hy with rfl | hy
          · exact Int.le_refl _
          · have := ih (k + x.s.toNat) (by omega) l' h' y hy
            omega
        · rw [kds_bad hk hx hs] at h; cases h
    · rw [kds_end hk] at h; cases h; cases hy
theorem kid_gt (ns : List Nd) (n : Nat) : ∀ y ∈ (kid ns n).getD [], (n : Int) < y := by
  cases hw : whl ns n with
  | false => rw [kid_no hw]; intro y hy; cases hy
  | true =>
    obtain ⟨k, z, x, hk, hx, hxz, hz, hzk⟩ := whl_yes hw
    obtain rfl : n = k := by omega
    rw [kid_at hx hxz hw]
    cases hk : kds ns (n + z) (n + 1) with
    | none => intro y hy; cases hy
    | some l =>
      intro y hy
      have := kds_gt ns (n + z) _ (n + 1) (Nat.le_refl _) l hk y hy
      omega

theorem vlB_parts {ns : List Nd} {c : Int} (h : vlB ns c = true) : shB ns = true ∧ ∀ i, i < ns.length → vlN ns c i = true := by
  unfold vlB at h
  rw [Bool.and_eq_true] at h
  exact ⟨h.1, fun i hi => List.all_eq_true.1 h.2 i (List.mem_range.2 hi)⟩
theorem vlN_parts {ns : List Nd} {c : Int} {n : Nat} {p : Nd} (hx : ns[n]? = some p) (h : vlN ns c n = true) : 0 ≤ p.f ∧ p.f ≤ p.e ∧ p.e ≤ c ∧ rnF ns p p.f ((kid ns n).getD []) = true := by
  rw [vlN_at hx, rnN_at hx] at h
  simp only [Bool.and_eq_true, decide_eq_true_eq] at h
  exact ⟨h.1.1.1, h.1.1.2, h.1.2, h.2⟩
theorem rnF_in {ns : List Nd} {p : Nd} : ∀ (ks : List Int) (fr : Int), (∀ k ∈ ks, ∃ (m : Nat) (x : Nd), k = m ∧ ns[m]? = some x ∧ x.f ≤ x.e) → p.f ≤ fr → rnF ns p fr ks = true → ∀ (m : Nat) (x : Nd), (m : Int) ∈ ks → ns[m]? = some x → x.f ≠ x.e → p.f ≤ x.f ∧ x.e ≤ p.e := by
  intro ks
  induction ks with
  | nil => intro fr _ _ _ m x hm; cases hm
  | cons k ks ih =>
    intro fr hk hfr h m x hm hx hne
    obtain ⟨q, y, rfl, hy, hyy⟩ := hk k List.mem_cons_self
    by_cases h1 : y.f = y.e
    · by_cases h2 : y.f < p.f
      · rw [rnF_empty_bad hy h1 h2] at h; cases h
      · rw [rnF_empty hy h1 h2] at h
        rcases List.mem_cons.1 hm with e | hm
        · obtain rfl : m = q := by omega
          rw [hx] at hy; cases hy; exact absurd h1 hne
        · exact ih fr (fun k hk' => hk k (List.mem_cons_of_mem _ hk')) hfr h m x hm hx hne
    · by_cases h2 : y.f < fr ∨ p.e < y.e
      · rw [rnF_bad hy h1 h2] at h; cases h
      · rw [rnF_next hy h1 h2] at h
        rcases List.mem_cons.1 hm with e | hm
        · obtain rfl : m = q := by omega
          rw [hx] at hy; cases hy; exact ⟨by omega, by omega⟩
        · exact ih y.e (fun k hk' => hk k (List.mem_cons_of_mem _ hk')) (by omega) h m x hm hx hne
/-- a kid that holds a place is in a node that holds it -/
theorem atB_kid {L : Int} {ts : List Tk} {ns : List Nd} (hf : fol L 0 ts = true) (hv : vlB ns (ts.length : Int) = true) {off : Int} {m q : Nat} {x p : Nd} (hx : ns[m]? = some x) (hp : ns[q]? = some p) (hm : (m : Int) ∈ kdl ns q) (h : atB ts off x = true) : atB ts off p = true := by
  obtain ⟨hs, hn⟩ := vlB_parts hv
  obtain ⟨h0, h1, h2, h3⟩ := vlN_parts hp (hn q (List.getElem?_eq_some_iff.1 hp).1)
  have hk : ∀ k ∈ (kid ns q).getD [], ∃ (m : Nat) (x : Nd), k = m ∧ ns[m]? = some x ∧ x.f ≤ x.e := fun k hk => by
    obtain ⟨j, rfl, hj⟩ := kid_mem ns q k hk
    obtain ⟨y, hy⟩ : ∃ y, ns[j]? = some y := ⟨_, List.getElem?_eq_getElem hj⟩
    exact ⟨j, y, rfl, hy, (vlN_parts hy (hn j hj)).2.1⟩
  have hne : x.f ≠ x.e := by
    obtain ⟨a, b, -, -, e1, e2, e3, -⟩ := atB_yes h
    omega
  obtain ⟨g1, g2⟩ := rnF_in _ p.f hk (Int.le_refl _) h3 m x hm hx hne
  exact atB_up hf h h0 g1 g2 h2
end Go.Proofs.Ytchcmonhdgndcaa
